// Package sample makes modules for the tests of the layers. It has no random source of its own: a function that is handed over picks what is taken.
package sample

import (
	"copyhold/api"
	"copyhold/code"
	"copyhold/judge"
)

// Maker makes modules; pick answers some number from 0 to n - 1.
type Maker struct {
	pick func(n int) int
}

func New(pick func(n int) int) Maker {
	return Maker{pick}
}

// Module is one that may be run, but for a few.
func (r Maker) Module() api.Module {
	m := r.outlines()
	made := code.Own(m)
	for f := range m.Funcs {
		for b := range m.Funcs[f].Blocks {
			block := &made.Funcs[f].Blocks[b]
			s, _ := judge.New(m, f, b)
			w := &writer{Maker: r, State: s, within: m.Funcs[f]}
			block.Code, block.End = w.block(r.pick(12))
		}
	}
	return made
}

// outlines are functions without instructions; each block ends by ERet, so that judge takes it for a module.
func (r Maker) outlines() api.Module {
	var m api.Module
	for f := range 1 + r.pick(4) {
		x := api.Func{Results: []api.Type{{Kind: api.TInt}}}
		if f > 0 {
			x.Regs = r.pick(3)
			x.Params = r.handed(x.Regs)
			x.Results = append(x.Results[:r.pick(2)], r.handed(x.Regs)[x.Regs:]...)
		}
		x.Blocks = []api.Block{r.outline(x.Regs, x.Params)}
		for range r.pick(5) {
			n := x.Regs + r.pick(3)
			x.Blocks = append(x.Blocks, r.outline(n, r.handed(n)))
		}
		m.Funcs = append(m.Funcs, x)
	}
	return code.Own(m)
}

func (r Maker) outline(regs int, params []api.Type) api.Block {
	return api.Block{Regs: regs, Params: params, End: api.End{Op: api.ERet}}
}

// handed begins with the handles of all regions, so that whatever is asked for can be made.
func (r Maker) handed(regs int) []api.Type {
	var list []api.Type
	for i := range regs {
		list = append(list, api.Type{Kind: api.THandle, R: i})
	}
	for range r.pick(3) {
		list = append(list, r.anyType(regs, 2))
	}
	return list
}

func (r Maker) anyType(regs, deep int) api.Type {
	if regs == 0 || r.pick(3) == 0 {
		return api.Type{Kind: api.TInt}
	}
	t := api.Type{Kind: api.THandle + r.pick(3), R: r.pick(regs)}
	for range r.pick(3) {
		if t.Kind == api.TTuple && deep > 0 {
			t.L = append(t.L, r.anyType(regs, deep-1))
		}
	}
	return t
}

func (r Maker) shuffle(list []int) {
	for i := range list {
		k := r.pick(i + 1)
		list[i], list[k] = list[k], list[i]
	}
}
