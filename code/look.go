package code

import (
	"slices"

	"copyhold/api"
	"copyhold/types"
)

// funcLook is a look at the function f of a module, and is both of them, so that it asks each one by its own words.
type funcLook struct {
	api.Module
	api.Func
	f int
}

// blockLook is a look at the block b of such a function. Regs and Params are the block's here; the function's stand in Func.
type blockLook struct {
	funcLook
	api.Block
	b int
}

func (l funcLook) funcFault() api.Fault {
	if code := l.funcCode(); code != 0 {
		return faultAt(code, FuncAt(l.f))
	}
	return firstFault(l.Blocks, func(b int, x api.Block) api.Fault {
		return blockLook{l, x, b}.blockFault()
	})
}

// funcCode is the code of a function apart from what stands in its blocks.
func (l funcLook) funcCode() int {
	if l.Regs < 0 || l.Regs > api.MaxRegs {
		return api.ErrRange
	}
	if code := typesCode(l.Params, l.Regs); code != 0 {
		return code
	}
	if code := typesCode(l.Results, l.Regs); code != 0 {
		return code
	}
	if len(l.Blocks) < 1 || len(l.Blocks) > api.MaxBlocks {
		return api.ErrMany
	}
	if l.f == 0 && !l.canBegin() {
		return api.ErrMain
	}
	return 0
}

// canBegin: where a module begins there is neither a region nor a value to hand over, and behind it nobody is left who knows of any region.
func (l funcLook) canBegin() bool {
	return l.Regs == 0 && len(l.Params) == 0 && !slices.ContainsFunc(l.Results, func(t api.Type) bool {
		return t.Kind != api.TInt
	})
}

func (l blockLook) blockFault() api.Fault {
	if code := l.blockCode(); code != 0 {
		return faultAt(code, BlockAt(l.f, l.b))
	}
	fault := firstFault(l.Code, func(i int, x api.Ins) api.Fault {
		return faultAt(Ins(l.Module, x), InsAt(l.f, l.b, i))
	})
	if fault.Code != 0 {
		return fault
	}
	return faultAt(End(l.Func, l.End), EndAt(l.f, l.b))
}

// blockCode is the code of a block apart from its instructions and its end.
func (l blockLook) blockCode() int {
	if l.Regs < l.Func.Regs || l.Regs > api.MaxRegions {
		return api.ErrRange
	}
	if code := typesCode(l.Params, l.Regs); code != 0 {
		return code
	}
	if l.b == 0 && !l.takesWhatItsFunctionTakes() {
		return api.ErrType
	}
	if len(l.Code) > api.MaxCode {
		return api.ErrMany
	}
	return 0
}

func (l blockLook) takesWhatItsFunctionTakes() bool {
	return l.Regs == l.Func.Regs && slices.EqualFunc(l.Params, l.Func.Params, types.Same)
}

// typesCode is the code of a list of parameters or results over so many regions.
func typesCode(list []api.Type, regs int) int {
	if len(list) > api.MaxParams {
		return api.ErrMany
	}
	for _, t := range list {
		if code := types.Check(t, regs); code != 0 {
			return code
		}
	}
	return 0
}

// firstFault asks a look of each element, and stops where one tells a fault.
func firstFault[T any](list []T, look func(i int, x T) api.Fault) api.Fault {
	for i, x := range list {
		if fault := look(i, x); fault.Code != 0 {
			return fault
		}
	}
	return api.Fault{}
}

// faultAt keeps the place away where there is no fault: no fault is the zero one.
func faultAt(code, at int) api.Fault {
	if code == 0 {
		return api.Fault{}
	}
	return api.Fault{Code: code, At: at}
}
