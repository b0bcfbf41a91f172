package code

import "copyhold/api"

// withoutFields is the instruction with nought in each field that its kind has, so that what is left is what it must not have; false: it is of no kind.
func withoutFields(x api.Ins) (api.Ins, bool) {
	switch x.Op {
	case api.INum:
		x.N = 0
	case api.INew, api.IIn:
	case api.IFree, api.ILen, api.IOut:
		x.A = 0
	case api.IArray, api.ILoad:
		x.A, x.B = 0, 0
	case api.IStore:
		x.A, x.B, x.C = 0, 0, 0
	case api.IBin, api.ISet:
		x.A, x.B, x.K = 0, 0, 0
	case api.IGet:
		x.A, x.K = 0, 0
	case api.ITuple:
		x.A, x.Args = 0, nil
	case api.ICall:
		x.K, x.Regs, x.Args = 0, nil, nil
	default:
		return x, false
	}
	return x, true
}

// isBare: nothing stands in it but, maybe, its kind.
func isBare(x api.Ins) bool {
	return x.A == 0 && x.B == 0 && x.C == 0 && x.K == 0 && x.N == 0 && len(x.Regs) == 0 && len(x.Args) == 0
}

// boundsCode is the code of what stands in the fields that an instruction has.
func boundsCode(m api.Module, x api.Ins) int {
	switch x.Op {
	case api.IBin:
		return rangeCode(x.K, api.KAdd, api.KXor)
	case api.IGet, api.ISet:
		return rangeCode(x.K, 0, api.MaxFields-1)
	case api.ITuple:
		return manyCode(x.Args, api.MaxFields)
	case api.ICall:
		if code := rangeCode(x.K, 0, len(m.Funcs)-1); code != 0 {
			return code
		}
		return handedCode(x.Regs, api.MaxRegs, x.Args)
	}
	return 0
}

// toCode: has tells whether the end has this To; if it has none, nothing may stand there.
func toCode(f api.Func, to api.To, has bool) int {
	if !has {
		if to.Block != 0 || len(to.Regs) > 0 || len(to.Args) > 0 {
			return api.ErrForm
		}
		return 0
	}
	if code := rangeCode(to.Block, 0, len(f.Blocks)-1); code != 0 {
		return code
	}
	return handedCode(to.Regs, api.MaxRegions, to.Args)
}

// handedCode is the code of regions and values that are handed over.
func handedCode(regs []int, most int, args []int) int {
	if code := manyCode(regs, most); code != 0 {
		return code
	}
	return manyCode(args, api.MaxParams)
}

func rangeCode(n, least, most int) int {
	if n < least || n > most {
		return api.ErrRange
	}
	return 0
}

func manyCode(list []int, most int) int {
	if len(list) > most {
		return api.ErrMany
	}
	return 0
}
