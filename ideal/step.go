package ideal

import (
	"copyhold/api"
	"copyhold/arith"
	"copyhold/code"
	"copyhold/heap"
)

func (m *Machine) top() *frame {
	return m.calls[len(m.calls)-1]
}

func (m *Machine) block() api.Block {
	c := m.top()
	return m.module.Funcs[c.f].Blocks[c.b]
}

// place is that of the step that comes next, or is being done.
func (m *Machine) place() int {
	c := m.top()
	if c.next < len(m.block().Code) {
		return code.InsAt(c.f, c.b, c.next)
	}
	return code.EndAt(c.f, c.b)
}

// step changes nothing but the count ahead of the last thing that it asks, so that place tells where it gave up.
func (m *Machine) step() {
	mustOrEnd(m.outcome.Fuel < m.fuel, api.EndFuel)
	m.outcome.Fuel++
	c, block := m.top(), m.block()
	if c.next == len(block.Code) {
		m.end(c, block.End)
		return
	}
	m.ins(c, block.Code[c.next])
	c.next++
}

func (m *Machine) ins(c *frame, x api.Ins) {
	switch x.Op {
	case api.INum:
		c.makesInt(x.N)
	case api.IBin:
		n, ok := arith.Op(x.K, c.number(x.A), c.number(x.B))
		mustOrEnd(ok, api.EndDivide)
		c.makesInt(n)
	case api.INew:
		m.openRegion(c)
	case api.IFree:
		must(m.Shut(c.value(x.A)))
	case api.ITuple:
		v, full := m.Tuple(c.value(x.A), c.all(x.Args))
		mustAnswer(full, api.ErrFull, api.EndMemory)
		c.makes(v)
	case api.IArray:
		m.makeArray(c, x.A, x.B)
	case api.IIn:
		m.takeIn(c)
	case api.IOut:
		m.putOut(c.number(x.A))
	case api.ICall:
		m.call(c, x)
	default:
		m.part(c, x)
	}
}

// part is an instruction that reaches into a thing. A heap takes tuples and arrays alike; here each has instructions of its own.
func (m *Machine) part(c *frame, x api.Ins) {
	switch x.Op {
	case api.IGet:
		v, none := m.Get(c.ofKind(x.A, heap.VTuple), int64(x.K))
		must(none == 0)
		c.makes(v)
	case api.ISet:
		none := m.Set(c.ofKind(x.A, heap.VTuple), int64(x.K), c.value(x.B))
		must(none == 0)
	case api.ILoad:
		v, none := m.Get(c.ofKind(x.A, heap.VArray), c.number(x.B))
		mustAnswer(none, api.ErrRange, api.EndIndex)
		c.makes(v)
	case api.IStore:
		none := m.Set(c.ofKind(x.A, heap.VArray), c.number(x.B), c.value(x.C))
		mustAnswer(none, api.ErrRange, api.EndIndex)
	case api.ILen:
		n, none := m.Len(c.ofKind(x.A, heap.VArray))
		must(none == 0)
		c.makesInt(int64(n))
	}
}

func (m *Machine) openRegion(c *frame) {
	v, ok := m.Open()
	mustOrEnd(ok, api.EndMemory)
	c.regions++
	c.makes(v)
}

// makeArray looks at the length before it looks at what the value a is; but there must be one.
func (m *Machine) makeArray(c *frame, a, b int) {
	handle, n := c.value(a), c.number(b)
	mustOrEnd(n >= 0 && n <= api.MaxArray, api.EndLength)
	v, full := m.Array(handle, int(n))
	mustAnswer(full, api.ErrFull, api.EndMemory)
	c.makes(v)
}

func (m *Machine) takeIn(c *frame) {
	mustOrEnd(len(m.in) > 0, api.EndInput)
	c.makesInt(m.in[0])
	m.in = m.in[1:]
}

func (m *Machine) putOut(n int64) {
	mustOrEnd(len(m.outcome.Out) < api.MaxOutput, api.EndOutput)
	m.outcome.Out = append(m.outcome.Out, n)
}

func (m *Machine) call(c *frame, x api.Ins) {
	called := c.begun(m.module, x.K, api.To{Regs: x.Regs, Args: x.Args})
	mustOrEnd(len(m.calls) < api.MaxFrames, api.EndDepth)
	m.calls = append(m.calls, called)
}

func (m *Machine) end(c *frame, e api.End) {
	switch e.Op {
	case api.EJump:
		m.jump(c, e.Yes)
	case api.EIf:
		if c.number(e.A) != 0 {
			m.jump(c, e.Yes)
		} else {
			m.jump(c, e.No)
		}
	case api.ERet:
		m.giveBack(c, e.Args)
	}
}

func (m *Machine) jump(c *frame, to api.To) {
	*c = *c.begun(m.module, c.f, to)
}

func (m *Machine) giveBack(c *frame, args []int) {
	must(len(args) == len(m.module.Funcs[c.f].Results))
	made := c.all(args)
	if len(m.calls) == 1 {
		m.outcome.Back = numbers(made)
		panic(ended(api.EndHalt))
	}
	m.calls = m.calls[:len(m.calls)-1]
	m.top().makes(made...)
}

func numbers(list []heap.Val) []int64 {
	made := make([]int64, len(list))
	for i, v := range list {
		must(v.Kind == heap.VInt)
		made[i] = v.N
	}
	return made
}
