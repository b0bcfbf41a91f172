package codec

import (
	"copyhold/api"
	"copyhold/code"
)

func (r *reader) module() api.Module {
	m := api.Module{Funcs: list(r, r.function)}
	if r.at < len(r.bytes) {
		giveUp(api.ErrForm, r.at)
	}
	if code.Check(m).Code != 0 {
		giveUp(api.ErrKind, len(r.bytes))
	}
	return m
}

func (r *reader) function() api.Func {
	var f api.Func
	r.numbers(&f.Regs)
	f.Params = r.types(0)
	f.Results = r.types(0)
	f.Blocks = list(r, r.block)
	return f
}

func (r *reader) block() api.Block {
	var b api.Block
	r.numbers(&b.Regs)
	b.Params = r.types(0)
	b.Code = list(r, r.ins)
	b.End = r.end()
	return b
}

// types reads a list of types that stands in so many others.
func (r *reader) types(around int) []api.Type {
	if around > api.MaxNested+1 {
		r.giveUpDeep()
	}
	return list(r, func() api.Type {
		var t api.Type
		r.numbers(&t.Kind)
		if t.Kind != api.TInt {
			r.numbers(&t.R)
		}
		if t.Kind == api.TTuple {
			t.L = r.types(around + 1)
		}
		return t
	})
}

func (r *reader) ins() api.Ins {
	var x api.Ins
	r.numbers(&x.Op)
	r.numbers(numbersOf(&x)...)
	if x.Op == api.INum {
		x.N = r.long()
	}
	for _, place := range listsOf(&x) {
		*place = list(r, r.number)
	}
	return x
}

func (r *reader) end() api.End {
	var e api.End
	r.numbers(&e.Op)
	switch e.Op {
	case api.EJump:
		e.Yes = r.to()
	case api.EIf:
		r.numbers(&e.A)
		e.Yes = r.to()
		e.No = r.to()
	case api.ERet:
		e.Args = list(r, r.number)
	}
	return e
}

func (r *reader) to() api.To {
	var to api.To
	r.numbers(&to.Block)
	to.Regs = list(r, r.number)
	to.Args = list(r, r.number)
	return to
}
