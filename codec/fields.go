package codec

import "copyhold/api"

// numbersOf are the places of those of A, B, C and K that an instruction has, in the order of the bytes.
func numbersOf(x *api.Ins) []*int {
	switch x.Op {
	case api.IFree, api.ITuple, api.ILen, api.IOut:
		return []*int{&x.A}
	case api.IArray, api.ILoad:
		return []*int{&x.A, &x.B}
	case api.IStore:
		return []*int{&x.A, &x.B, &x.C}
	case api.IBin, api.ISet:
		return []*int{&x.A, &x.B, &x.K}
	case api.IGet:
		return []*int{&x.A, &x.K}
	case api.ICall:
		return []*int{&x.K}
	}
	return nil
}

// listsOf are the places of the lists that an instruction has, in the order of the bytes.
func listsOf(x *api.Ins) []*[]int {
	switch x.Op {
	case api.ITuple:
		return []*[]int{&x.Args}
	case api.ICall:
		return []*[]int{&x.Regs, &x.Args}
	}
	return nil
}
