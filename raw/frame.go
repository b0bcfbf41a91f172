package raw

import "copyhold/api"

// frame is a call that is open: its function, the block in it and the instruction that comes next, with the block's values: plain words, whatever they stand for. The names of its regions are the verifier's alone; here a region is known by its handle.
type frame struct {
	f, b, next int
	values     []int64
}

func (c *frame) makes(list ...int64) {
	c.values = append(c.values, list...)
}

func (c *frame) all(args []int) []int64 {
	list := make([]int64, len(args))
	for i, a := range args {
		list[i] = c.values[a]
	}
	return list
}

// begun is the beginning of the block b of the function f, with values of this one.
func (c *frame) begun(f, b int, args []int) *frame {
	return &frame{f: f, b: b, values: c.all(args)}
}

func (c *frame) jump(to api.To) {
	*c = *c.begun(c.f, to.Block, to.Args)
}
