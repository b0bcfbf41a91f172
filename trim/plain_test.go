package trim

import (
	"testing"

	"copyhold/api"
)

// The chapter's words, done plainly: who is come to is looked for as often as there are elements, and each element that stays is told anew.

// comesTo tells who is come to from the first of n on, if leads tells who leads to whom at once.
func comesTo(n int, leads func(from, to int) bool) []bool {
	has := make([]bool, n)
	has[0] = true
	for range n {
		for from := n - 1; from >= 0; from-- {
			for to := range n {
				has[to] = has[to] || has[from] && leads(from, to)
			}
		}
	}
	return has
}

// newNumber is how many of those ahead stay.
func newNumber(stay []bool, k int) int {
	n := 0
	for _, stays := range stay[:k] {
		if stays {
			n++
		}
	}
	return n
}

func endLeads(e api.End, b int) bool {
	switch e.Op {
	case api.EJump:
		return e.Yes.Block == b
	case api.EIf:
		return e.Yes.Block == b || e.No.Block == b
	}
	return false
}

func hasCall(blocks []api.Block, stay []bool, k int) bool {
	for b, block := range blocks {
		for _, x := range block.Code {
			if stay[b] && x.Op == api.ICall && x.K == k {
				return true
			}
		}
	}
	return false
}

// plainStay tells which functions stay, and of each function which blocks, if it does.
func plainStay(m api.Module) (funcs []bool, blocks [][]bool) {
	for _, f := range m.Funcs {
		blocks = append(blocks, comesTo(len(f.Blocks), func(from, to int) bool {
			return endLeads(f.Blocks[from].End, to)
		}))
	}
	return comesTo(len(m.Funcs), func(from, to int) bool {
		return hasCall(m.Funcs[from].Blocks, blocks[from], to)
	}), blocks
}

func plainMake(m api.Module) api.Module {
	funcs, blocks := plainStay(m)
	var made api.Module
	for f, x := range m.Funcs {
		if !funcs[f] {
			continue
		}
		y := api.Func{Regs: x.Regs, Params: x.Params, Results: x.Results}
		for b, block := range x.Blocks {
			if blocks[f][b] {
				y.Blocks = append(y.Blocks, plainBlock(block, funcs, blocks[f]))
			}
		}
		made.Funcs = append(made.Funcs, y)
	}
	return made
}

func plainBlock(b api.Block, funcs, blocks []bool) api.Block {
	made := api.Block{Regs: b.Regs, Params: b.Params, End: api.End{Op: b.End.Op, A: b.End.A, Args: b.End.Args}}
	for _, x := range b.Code {
		if x.Op == api.ICall {
			x = api.Ins{Op: api.ICall, K: newNumber(funcs, x.K), Regs: x.Regs, Args: x.Args}
		}
		made.Code = append(made.Code, x)
	}
	to := func(x api.To) api.To {
		return api.To{Block: newNumber(blocks, x.Block), Regs: x.Regs, Args: x.Args}
	}
	if b.End.Op != api.ERet {
		made.End.Yes = to(b.End.Yes)
	}
	if b.End.Op == api.EIf {
		made.End.No = to(b.End.No)
	}
	return made
}

func wantAsPlain(t *testing.T, what string, m api.Module) {
	t.Helper()
	wantMade(t, what, m, plainMake(m))
}
