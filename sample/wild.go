package sample

import (
	"copyhold/api"
)

// Wild is a module whose numbers of values and regions nobody has looked at: it is rarely one that may be run.
func (r Maker) Wild() api.Module {
	m := r.outlines()
	for f := range m.Funcs {
		for b := range m.Funcs[f].Blocks {
			block := &m.Funcs[f].Blocks[b]
			// most code begins with something to work on
			block.Code = []api.Ins{{Op: api.INew}, {Op: api.INum, N: int64(r.pick(20) - 2)}}
			for n := range r.pick(14) {
				block.Code = append(block.Code, r.wildIns(m, n+4))
			}
			block.End = r.wildEnd(m.Funcs[f], len(block.Code)+2)
		}
	}
	return m
}

func (r Maker) wildIns(m api.Module, values int) api.Ins {
	a, b, c := r.pick(values), r.pick(values), r.pick(values)
	switch op := 1 + r.pick(api.ICall); op {
	case api.INum:
		return api.Ins{Op: op, N: int64(r.pick(22) - 3)}
	case api.IBin:
		return api.Ins{Op: op, A: a, B: b, K: 1 + r.pick(api.KXor)}
	case api.IFree, api.ILen, api.IOut:
		return api.Ins{Op: op, A: a}
	case api.ITuple:
		return api.Ins{Op: op, A: a, Args: r.wildList(r.pick(api.MaxFields+1), values)}
	case api.IGet:
		return api.Ins{Op: op, A: a, K: r.pick(4)}
	case api.ISet:
		return api.Ins{Op: op, A: a, B: b, K: r.pick(4)}
	case api.IArray, api.ILoad:
		return api.Ins{Op: op, A: a, B: b}
	case api.IStore:
		return api.Ins{Op: op, A: a, B: b, C: c}
	case api.ICall:
		k := r.pick(len(m.Funcs))
		return api.Ins{Op: op, K: k, Regs: r.wildList(m.Funcs[k].Regs, 2), Args: r.wildList(len(m.Funcs[k].Params), values)}
	default:
		return api.Ins{Op: op}
	}
}

func (r Maker) wildEnd(f api.Func, values int) api.End {
	switch 1 + r.pick(api.ERet) {
	case api.EJump:
		return api.End{Op: api.EJump, Yes: r.wildTo(f, values)}
	case api.EIf:
		return api.End{Op: api.EIf, A: r.pick(values), Yes: r.wildTo(f, values), No: r.wildTo(f, values)}
	}
	return api.End{Op: api.ERet, Args: r.wildList(len(f.Results), values)}
}

func (r Maker) wildTo(f api.Func, values int) api.To {
	b := r.pick(len(f.Blocks))
	return api.To{Block: b, Regs: r.wildList(f.Blocks[b].Regs, 3), Args: r.wildList(len(f.Blocks[b].Params), values)}
}

// wildList is now and then one shorter than it is asked for.
func (r Maker) wildList(n, below int) []int {
	if n > 0 && r.pick(20) == 0 {
		n--
	}
	list := make([]int, n)
	for i := range list {
		list[i] = r.pick(below)
	}
	return list
}
