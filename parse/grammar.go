package parse

import "copyhold/api"

func (r *reader) module() api.Module {
	var m api.Module
	for len(r.left) > 0 {
		m.Funcs = append(m.Funcs, r.function())
	}
	return m
}

func (r *reader) function() api.Func {
	var f api.Func
	r.must("func")
	r.nums(&f.Regs)
	f.Params = r.types(0)
	r.must("->")
	f.Results = r.types(0)
	r.must("{")
	for !r.took("}") {
		f.Blocks = append(f.Blocks, r.block())
	}
	return f
}

func (r *reader) block() api.Block {
	var b api.Block
	r.must("block")
	r.nums(&b.Regs)
	b.Params = r.types(0)
	r.must("{")
	for r.which(Op) != 0 {
		b.Code = append(b.Code, r.ins())
		r.must(";")
	}
	b.End = r.end()
	r.must(";")
	r.must("}")
	return b
}

// types reads a list of types, each of which stands in so many others.
func (r *reader) types(around int) []api.Type {
	return list(r, "(", ")", func() api.Type { return r.oneType(around) })
}

func (r *reader) oneType(around int) api.Type {
	t := api.Type{Kind: r.mustWhich(typeWord)}
	if around > api.MaxNested {
		r.giveUp(api.ErrDeep)
	}
	r.take()
	if t.Kind != api.TInt {
		r.nums(&t.R)
	}
	if t.Kind == api.TTuple {
		t.L = r.types(around + 1)
	}
	return t
}

func (r *reader) ins() api.Ins {
	x := api.Ins{Op: r.mustWhich(Op)}
	r.take()
	switch x.Op {
	case api.INum:
		x.N = r.long()
	case api.IBin:
		x.K = r.mustWhich(Kind)
		r.take()
		r.nums(&x.A, &x.B)
	case api.IFree, api.ILen, api.IOut:
		r.nums(&x.A)
	case api.ITuple:
		r.nums(&x.A)
		x.Args = r.args()
	case api.IGet:
		r.nums(&x.A, &x.K)
	case api.ISet:
		r.nums(&x.A, &x.K, &x.B)
	case api.IArray, api.ILoad:
		r.nums(&x.A, &x.B)
	case api.IStore:
		r.nums(&x.A, &x.B, &x.C)
	case api.ICall:
		r.nums(&x.K)
		x.Regs = r.regs()
		x.Args = r.args()
	}
	return x
}

func (r *reader) end() api.End {
	e := api.End{Op: r.mustWhich(endWord)}
	r.take()
	switch e.Op {
	case api.EJump:
		e.Yes = r.to()
	case api.EIf:
		r.nums(&e.A)
		r.must("to")
		e.Yes = r.to()
		r.must("else")
		e.No = r.to()
	case api.ERet:
		e.Args = r.args()
	}
	return e
}

func (r *reader) to() api.To {
	var to api.To
	r.nums(&to.Block)
	to.Regs = r.regs()
	to.Args = r.args()
	return to
}
