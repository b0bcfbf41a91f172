package raw

import (
	"copyhold/api"
	"copyhold/arith"
)

func (m *Machine) top() *frame {
	return m.calls[len(m.calls)-1]
}

// step takes what is named for what it is needed for, unseen: verify.Check has asked all that.
func (m *Machine) step() {
	mustOrEnd(m.outcome.Fuel < m.fuel, api.EndFuel)
	m.outcome.Fuel++
	c := m.top()
	block := m.module.Funcs[c.f].Blocks[c.b]
	if c.next == len(block.Code) {
		m.end(c, block.End)
		return
	}
	m.ins(c, block.Code[c.next])
	c.next++
}

func (m *Machine) ins(c *frame, x api.Ins) {
	switch x.Op {
	case api.INum:
		c.makes(x.N)
	case api.IBin:
		n, ok := arith.Op(x.K, c.values[x.A], c.values[x.B])
		mustOrEnd(ok, api.EndDivide)
		c.makes(n)
	case api.INew:
		r := m.Open()
		mustOrEnd(r >= 0, api.EndMemory)
		c.makes(int64(r))
	case api.IFree:
		m.Shut(int(c.values[x.A]))
	case api.ITuple:
		c.makes(m.tuple(c.values[x.A], c.all(x.Args)))
	case api.IArray:
		c.makes(m.array(c.values[x.A], c.values[x.B]))
	case api.IIn:
		c.makes(m.takeIn())
	case api.IOut:
		m.putOut(c.values[x.A])
	case api.ICall:
		m.call(c, x)
	default:
		m.part(c, x)
	}
}

// part is an instruction that reaches into a thing.
func (m *Machine) part(c *frame, x api.Ins) {
	at := c.values[x.A]
	switch x.Op {
	case api.IGet:
		c.makes(m.word(at + int64(x.K)))
	case api.ISet:
		m.Store(int(at)+x.K, c.values[x.B])
	case api.ILoad:
		c.makes(m.word(m.element(at, c.values[x.B])))
	case api.IStore:
		m.Store(int(m.element(at, c.values[x.B])), c.values[x.C])
	case api.ILen:
		c.makes(m.word(at))
	}
}

func (m *Machine) takeIn() int64 {
	mustOrEnd(len(m.in) > 0, api.EndInput)
	n := m.in[0]
	m.in = m.in[1:]
	return n
}

func (m *Machine) putOut(n int64) {
	mustOrEnd(len(m.outcome.Out) < api.MaxOutput, api.EndOutput)
	m.outcome.Out = append(m.outcome.Out, n)
}

func (m *Machine) call(c *frame, x api.Ins) {
	mustOrEnd(len(m.calls) < api.MaxFrames, api.EndDepth)
	m.calls = append(m.calls, c.begun(x.K, 0, x.Args))
}

func (m *Machine) end(c *frame, e api.End) {
	switch {
	case e.Op == api.ERet:
		m.giveBack(c.all(e.Args))
	case e.Op == api.EIf && c.values[e.A] == 0:
		c.jump(e.No)
	default:
		c.jump(e.Yes)
	}
}

func (m *Machine) giveBack(results []int64) {
	if len(m.calls) == 1 {
		m.halt(results)
	}
	m.calls = m.calls[:len(m.calls)-1]
	m.top().makes(results...)
}
