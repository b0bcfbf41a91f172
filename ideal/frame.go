package ideal

import (
	"copyhold/api"
	"copyhold/heap"
)

// frame is a call that is open: its function, the block in it and the instruction that comes next, with the block's values. Of its regions their number is enough: a value knows its own.
type frame struct {
	f, b, next int
	regions    int
	values     []heap.Val
}

func (c *frame) makes(list ...heap.Val) {
	c.values = append(c.values, list...)
}

func (c *frame) makesInt(n int64) {
	c.makes(heap.Val{Kind: heap.VInt, N: n})
}

func (c *frame) value(a int) heap.Val {
	must(a >= 0 && a < len(c.values))
	return c.values[a]
}

func (c *frame) ofKind(a, kind int) heap.Val {
	v := c.value(a)
	must(v.Kind == kind)
	return v
}

func (c *frame) number(a int) int64 {
	return c.ofKind(a, heap.VInt).N
}

func (c *frame) all(args []int) []heap.Val {
	list := make([]heap.Val, len(args))
	for i, a := range args {
		list[i] = c.value(a)
	}
	return list
}

// begun is the beginning of a block of the function f, with regions and values of this one.
func (c *frame) begun(m api.Module, f int, to api.To) *frame {
	block := m.Funcs[f].Blocks[to.Block]
	must(len(to.Regs) == block.Regs && len(to.Args) == len(block.Params))
	for _, r := range to.Regs {
		must(r >= 0 && r < c.regions)
	}
	return &frame{f: f, b: to.Block, regions: block.Regs, values: c.all(to.Args)}
}
