package codec

import "copyhold/api"

// writer has the bytes that are written so far. It gives up once there are too many, as types alone can be a thousand times as many.
type writer struct{ bytes []byte }

func (w *writer) module(m api.Module) {
	put(w, m.Funcs, w.function)
}

func (w *writer) function(f api.Func) {
	w.numbers(f.Regs)
	w.types(f.Params)
	w.types(f.Results)
	put(w, f.Blocks, w.block)
}

func (w *writer) block(b api.Block) {
	w.numbers(b.Regs)
	w.types(b.Params)
	put(w, b.Code, w.ins)
	w.end(b.End)
}

func (w *writer) types(list []api.Type) {
	put(w, list, func(t api.Type) {
		w.numbers(t.Kind)
		if t.Kind != api.TInt {
			w.numbers(t.R)
		}
		if t.Kind == api.TTuple {
			w.types(t.L)
		}
	})
}

func (w *writer) ins(x api.Ins) {
	w.numbers(x.Op)
	for _, place := range numbersOf(&x) {
		w.numbers(*place)
	}
	if x.Op == api.INum {
		w.long(x.N)
	}
	for _, place := range listsOf(&x) {
		w.list(*place)
	}
}

func (w *writer) end(e api.End) {
	w.numbers(e.Op)
	switch e.Op {
	case api.EJump:
		w.to(e.Yes)
	case api.EIf:
		w.numbers(e.A)
		w.to(e.Yes)
		w.to(e.No)
	case api.ERet:
		w.list(e.Args)
	}
}

func (w *writer) to(to api.To) {
	w.numbers(to.Block)
	w.list(to.Regs)
	w.list(to.Args)
}

func (w *writer) list(numbers []int) {
	w.numbers(len(numbers))
	w.numbers(numbers...)
}

// put writes how many things there are, and each one by the function one.
func put[T any](w *writer, list []T, one func(T)) {
	w.numbers(len(list))
	for _, x := range list {
		one(x)
	}
}

func (w *writer) numbers(numbers ...int) {
	for _, n := range numbers {
		w.long(int64(n))
	}
}

func (w *writer) long(n int64) {
	rest := folded(n)
	for ; rest >= more; rest >>= groupBits {
		w.bytes = append(w.bytes, byte(rest)|more)
	}
	w.bytes = append(w.bytes, byte(rest))
	if len(w.bytes)+sumBytes > api.MaxBytes {
		giveUp(api.ErrMany, -1)
	}
}
