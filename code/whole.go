package code

import (
	"slices"

	"copyhold/api"
	"copyhold/types"
)

// ownList takes memory for the list itself, and leaves what stands in its elements to own.
func ownList[T any](list []T, own func(T) T) []T {
	made := make([]T, len(list))
	for i, x := range list {
		made[i] = own(x)
	}
	return made
}

func ownInts(list []int) []int {
	made := make([]int, len(list))
	copy(made, list)
	return made
}

func ownFunc(f api.Func) api.Func {
	f.Params = ownList(f.Params, ownType)
	f.Results = ownList(f.Results, ownType)
	f.Blocks = ownList(f.Blocks, ownBlock)
	return f
}

func ownBlock(b api.Block) api.Block {
	b.Params = ownList(b.Params, ownType)
	b.Code = ownList(b.Code, ownIns)
	b.End = ownEnd(b.End)
	return b
}

func ownType(t api.Type) api.Type {
	t.L = ownList(t.L, ownType)
	return t
}

func ownIns(x api.Ins) api.Ins {
	x.Regs, x.Args = ownInts(x.Regs), ownInts(x.Args)
	return x
}

func ownEnd(e api.End) api.End {
	e.Yes, e.No, e.Args = ownTo(e.Yes), ownTo(e.No), ownInts(e.Args)
	return e
}

func ownTo(to api.To) api.To {
	to.Regs, to.Args = ownInts(to.Regs), ownInts(to.Args)
	return to
}

func sameFunc(a, b api.Func) bool {
	return a.Regs == b.Regs &&
		slices.EqualFunc(a.Params, b.Params, types.Same) &&
		slices.EqualFunc(a.Results, b.Results, types.Same) &&
		slices.EqualFunc(a.Blocks, b.Blocks, sameBlock)
}

func sameBlock(a, b api.Block) bool {
	return a.Regs == b.Regs &&
		slices.EqualFunc(a.Params, b.Params, types.Same) &&
		slices.EqualFunc(a.Code, b.Code, sameIns) &&
		sameEnd(a.End, b.End)
}

func sameIns(a, b api.Ins) bool {
	return a.Op == b.Op && a.A == b.A && a.B == b.B && a.C == b.C && a.K == b.K && a.N == b.N &&
		slices.Equal(a.Regs, b.Regs) && slices.Equal(a.Args, b.Args)
}

func sameEnd(a, b api.End) bool {
	return a.Op == b.Op && a.A == b.A && sameTo(a.Yes, b.Yes) && sameTo(a.No, b.No) && slices.Equal(a.Args, b.Args)
}

func sameTo(a, b api.To) bool {
	return a.Block == b.Block && slices.Equal(a.Regs, b.Regs) && slices.Equal(a.Args, b.Args)
}
