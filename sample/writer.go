package sample

import (
	"slices"

	"copyhold/api"
	"copyhold/judge"
	"copyhold/types"
)

// writer writes the code of a block, as a judge of it lets by.
type writer struct {
	Maker
	*judge.State
	within api.Func
	code   []api.Ins
}

func (w *writer) add(x api.Ins) bool {
	if len(w.code) == api.MaxCode || w.State.Ins(x) != 0 {
		return false
	}
	w.code = append(w.code, x)
	return true
}

func (w *writer) block(n int) ([]api.Ins, api.End) {
	for tries := 0; len(w.code) < n && tries < 200; tries++ {
		w.add(w.anyIns())
	}
	end := w.end()
	return w.code, end
}

func (w *writer) end() api.End {
	blocks := w.within.Blocks
	a, b := w.pick(len(blocks)), w.pick(len(blocks))
	switch w.pick(4) {
	case 0:
		w.hold(w.within.Regs)
		return api.End{Op: api.ERet, Args: w.needAll(w.within.Results, w.ownNames())}
	case 1, 2:
		if blocks[b].Regs != blocks[a].Regs {
			b = a
		}
		w.hold(blocks[a].Regs)
		return api.End{Op: api.EIf, A: w.need(api.Type{Kind: api.TInt}), Yes: w.to(a), No: w.to(b)}
	}
	w.hold(blocks[a].Regs)
	return api.End{Op: api.EJump, Yes: w.to(a)}
}

// anyIns names values that may be there, most of them of the kinds that it needs; the judge lets by what is right.
func (w *writer) anyIns() api.Ins {
	list := w.Types()
	number, handle, tuple, array := w.some(list, api.TInt), w.some(list, api.THandle), w.some(list, api.TTuple), w.some(list, api.TArray)
	switch op := 1 + w.pick(api.ICall); op {
	case api.INum:
		return api.Ins{Op: op, N: int64(w.pick(6) - 1)}
	case api.IBin:
		return api.Ins{Op: op, A: number, B: w.some(list, api.TInt), K: 1 + w.pick(api.KXor)}
	case api.IFree:
		return api.Ins{Op: op, A: handle}
	case api.ITuple:
		return api.Ins{Op: op, A: handle, Args: []int{w.some(list, 0), w.some(list, 0), number}[:w.pick(4)]}
	case api.IGet:
		return api.Ins{Op: op, A: tuple, K: w.pick(3)}
	case api.ISet:
		return api.Ins{Op: op, A: tuple, B: w.some(list, 0), K: w.pick(3)}
	case api.IArray:
		return api.Ins{Op: op, A: handle, B: number}
	case api.ILoad:
		return api.Ins{Op: op, A: array, B: number}
	case api.IStore:
		return api.Ins{Op: op, A: array, B: number, C: w.some(list, api.TInt)}
	case api.ILen:
		return api.Ins{Op: op, A: array}
	case api.IOut:
		return api.Ins{Op: op, A: number}
	case api.ICall:
		return w.call(w.pick(len(w.Funcs)))
	default:
		return api.Ins{Op: op}
	}
}

// some is a value of the kind, if there is one that the eye falls on; any number of a value, or the one behind, else.
func (w *writer) some(list []api.Type, kind int) int {
	for range list {
		if a := w.pick(len(list)); list[a].Kind == kind {
			return a
		}
	}
	return w.pick(len(list) + 1)
}

func (w *writer) call(k int) api.Ins {
	names := w.List()
	w.shuffle(names)
	if len(names) < w.Funcs[k].Regs {
		return api.Ins{}
	}
	names = names[:w.Funcs[k].Regs]
	return api.Ins{Op: api.ICall, K: k, Regs: names, Args: w.needAll(w.Funcs[k].Params, names)}
}

// hold frees regions, or makes some, till so many are held.
func (w *writer) hold(n int) {
	for len(w.List()) < n && w.add(api.Ins{Op: api.INew}) {
	}
	own := w.List()[w.within.Regs:]
	w.shuffle(own)
	for i := 0; i < len(own) && len(w.List()) > n; i++ {
		w.add(api.Ins{Op: api.IFree, A: w.need(api.Type{Kind: api.THandle, R: own[i]})})
	}
}

func (w *writer) to(b int) api.To {
	names := w.List()
	w.shuffle(names[w.within.Regs:])
	return api.To{Block: b, Regs: names, Args: w.needAll(w.within.Blocks[b].Params, names)}
}

// ownNames leave each region's name as it is.
func (w *writer) ownNames() []int {
	var names []int
	for r := range w.Len() {
		names = append(names, r)
	}
	return names
}

func (w *writer) needAll(list []api.Type, names []int) []int {
	var args []int
	for _, t := range list {
		t, _ = types.Rename(t, names)
		args = append(args, w.need(t))
	}
	return args
}

// need is a value of the type; it is made if there is none. -1: it can't be made.
func (w *writer) need(t api.Type) int {
	if a := w.find(t); a >= 0 {
		return a
	}
	switch t.Kind {
	case api.TInt:
		return w.last(api.Ins{Op: api.INum, N: int64(w.pick(5))})
	case api.TArray:
		handle, n := w.need(api.Type{Kind: api.THandle, R: t.R}), w.need(api.Type{Kind: api.TInt})
		return w.last(api.Ins{Op: api.IArray, A: handle, B: n})
	case api.TTuple:
		handle, args := w.need(api.Type{Kind: api.THandle, R: t.R}), w.needAll(t.L, w.ownNames())
		return w.last(api.Ins{Op: api.ITuple, A: handle, Args: args})
	}
	return -1
}

// find answers some value of the type, not the first one alone; -1: there is none.
func (w *writer) find(t api.Type) int {
	var all []int
	for a, x := range w.Types() {
		if types.Same(x, t) {
			all = append(all, a)
		}
	}
	w.shuffle(all)
	return slices.Concat(all, []int{-1})[0]
}

func (w *writer) last(x api.Ins) int {
	if !w.add(x) {
		return -1
	}
	return len(w.Types()) - 1
}
