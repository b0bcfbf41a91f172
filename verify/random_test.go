package verify

import (
	"math/rand"
	"slices"
	"testing"

	"copyhold/api"
	"copyhold/code"
	"copyhold/judge"
	"copyhold/types"
)

// maker makes modules that may be run for the most part. Each function and each block is handed the handles of all its regions, so that whatever is asked for can be made.
type maker struct{ *rand.Rand }

func (r maker) shuffled(list []int) []int {
	r.Shuffle(len(list), func(i, k int) { list[i], list[k] = list[k], list[i] })
	return list
}

func (r maker) typ(regs, deep int) api.Type {
	if regs == 0 || r.Intn(3) == 0 {
		return intType()
	}
	t := api.Type{Kind: api.THandle + r.Intn(3), R: r.Intn(regs)}
	for range r.Intn(3) {
		if t.Kind == api.TTuple && deep > 0 {
			t.L = append(t.L, r.typ(regs, deep-1))
		}
	}
	return t
}

func (r maker) handed(regs int) []api.Type {
	var list []api.Type
	for i := range regs {
		list = append(list, handleOf(i))
	}
	for range r.Intn(3) {
		list = append(list, r.typ(regs, 2))
	}
	return list
}

// outlines are functions without instructions; each block ends by ERet, so that it is a module.
func (r maker) outlines() api.Module {
	var m api.Module
	for f := range 1 + r.Intn(4) {
		x := api.Func{Results: []api.Type{intType()}}
		if f > 0 {
			x.Regs = r.Intn(3)
			x.Params = r.handed(x.Regs)
			x.Results = append(x.Results[:r.Intn(2)], r.handed(x.Regs)[x.Regs:]...)
		}
		x.Blocks = []api.Block{{Regs: x.Regs, Params: x.Params, End: back()}}
		for range r.Intn(5) {
			n := x.Regs + r.Intn(3)
			x.Blocks = append(x.Blocks, api.Block{Regs: n, Params: r.handed(n), End: back()})
		}
		m.Funcs = append(m.Funcs, x)
	}
	return code.Own(m)
}

func (r maker) module() api.Module {
	m := r.outlines()
	made := code.Own(m)
	for f := range m.Funcs {
		for b := range m.Funcs[f].Blocks {
			block := &made.Funcs[f].Blocks[b]
			s, _ := judge.New(m, f, b)
			w := &writer{maker: r, State: s, f: m.Funcs[f]}
			block.Code, block.End = w.block(r.Intn(12))
		}
	}
	return made
}

// writer writes the code of a block, as a judge of it lets by.
type writer struct {
	maker
	*judge.State
	f    api.Func
	code []api.Ins
}

func (w *writer) add(x api.Ins) bool {
	if len(w.code) == api.MaxCode || w.State.Ins(x) != 0 {
		return false
	}
	w.code = append(w.code, x)
	return true
}

func (w *writer) block(n int) ([]api.Ins, api.End) {
	for tries := 0; len(w.code) < n && tries < 200; tries++ {
		w.add(w.any())
	}
	var end api.End
	switch w.Intn(4) {
	case 0:
		w.hold(w.f.Regs)
		end = back(w.all(w.f.Results, upTo(api.MaxRegs))...)
	case 1, 2:
		a, b := w.target(), w.target()
		if w.f.Blocks[b].Regs != w.f.Blocks[a].Regs {
			b = a
		}
		w.hold(w.f.Blocks[a].Regs)
		end = fork(w.need(intType()), w.to(a), w.to(b))
	default:
		b := w.target()
		w.hold(w.f.Blocks[b].Regs)
		end = jump(w.to(b))
	}
	return w.code, end
}

func (w *writer) target() int { return w.Intn(len(w.f.Blocks)) }

// any is an instruction with numbers of values that may be there.
func (w *writer) any() api.Ins {
	n := len(w.Types()) + 1
	a, b, c := w.Intn(n), w.Intn(n), w.Intn(n)
	switch w.Intn(15) {
	case 0:
		return num(int64(w.Intn(6) - 1))
	case 1:
		return api.Ins{Op: api.IBin, A: a, B: b, K: 1 + w.Intn(9)}
	case 2:
		return fresh()
	case 3:
		return free(a)
	case 4, 5:
		return tuple(a, []int{b, c, b}[:w.Intn(4)]...)
	case 6:
		return get(a, w.Intn(3))
	case 7:
		return set(a, w.Intn(3), b)
	case 8:
		return array(a, b)
	case 9:
		return load(a, b)
	case 10:
		return store(a, b, c)
	case 11:
		return length(a)
	case 12:
		return comesIn()
	case 13:
		return out(a)
	}
	return w.call(w.Intn(len(w.Funcs)))
}

func (w *writer) call(k int) api.Ins {
	held := w.shuffled(w.List())
	if len(held) < w.Funcs[k].Regs {
		return out(-1)
	}
	names := held[:w.Funcs[k].Regs]
	return call(k, names, w.all(w.Funcs[k].Params, names)...)
}

// hold frees regions, or makes some, till so many are held.
func (w *writer) hold(n int) {
	for len(w.List()) < n && w.add(fresh()) {
	}
	own := w.shuffled(w.List()[w.f.Regs:])
	for i := 0; i < len(own) && len(w.List()) > n; i++ {
		w.add(free(w.need(handleOf(own[i]))))
	}
}

func (w *writer) to(b int) api.To {
	list := w.List()
	w.shuffled(list[w.f.Regs:])
	return to(b, list, w.all(w.f.Blocks[b].Params, list)...)
}

func (w *writer) all(list []api.Type, names []int) []int {
	var args []int
	for _, t := range list {
		t, _ = types.Rename(t, names)
		args = append(args, w.need(t))
	}
	return args
}

// need is a value of the type; it is made if there is none. -1: it can't be made.
func (w *writer) need(t api.Type) int {
	list := w.Types()
	for _, a := range w.Perm(len(list)) {
		if types.Same(list[a], t) {
			return a
		}
	}
	switch t.Kind {
	case api.TInt:
		return w.last(num(int64(w.Intn(5))))
	case api.TArray:
		return w.last(array(w.need(handleOf(t.R)), w.need(intType())))
	case api.TTuple:
		args := w.all(t.L, upTo(api.MaxRegions))
		return w.last(tuple(w.need(handleOf(t.R)), args...))
	}
	return -1
}

func (w *writer) last(x api.Ins) int {
	if !w.add(x) {
		return -1
	}
	return len(w.Types()) - 1
}

// spoil changes something at a place or two of the module.
func (r maker) spoil(m api.Module) api.Module {
	m = code.Own(m)
	for range 1 + r.Intn(3) {
		f := &m.Funcs[r.Intn(len(m.Funcs))]
		b := &f.Blocks[r.Intn(len(f.Blocks))]
		if len(b.Code) > 0 && r.Intn(3) > 0 {
			r.spoilCode(b)
		} else {
			r.spoilEnd(&b.End)
		}
	}
	return m
}

func (r maker) spoilCode(b *api.Block) {
	at := r.Intn(len(b.Code))
	x := &b.Code[at]
	switch r.Intn(9) {
	case 0:
		b.Code = slices.Delete(b.Code, at, at+1)
	case 1:
		b.Code = slices.Insert(b.Code, at, num(1))
	case 2:
		k := r.Intn(len(b.Code))
		b.Code[at], b.Code[k] = b.Code[k], b.Code[at]
	case 3:
		x.A = r.Intn(12)
	case 4:
		x.B = r.Intn(12)
	case 5:
		x.K = r.Intn(4)
	case 6:
		r.spoilList(&x.Args)
	case 7:
		r.spoilList(&x.Regs)
	case 8:
		b.Code = slices.Insert(b.Code, at, free(r.Intn(4)))
	}
}

func (r maker) spoilEnd(e *api.End) {
	switch r.Intn(7) {
	case 0:
		e.A = r.Intn(12)
	case 1:
		r.spoilList(&e.Yes.Regs)
	case 2:
		r.spoilList(&e.Yes.Args)
	case 3:
		r.spoilList(&e.No.Regs)
	case 4:
		r.spoilList(&e.No.Args)
	case 5:
		r.spoilList(&e.Args)
	case 6:
		e.Yes, e.No = e.No, e.Yes
	}
}

func (r maker) spoilList(list *[]int) {
	if len(*list) == 0 {
		return
	}
	at := r.Intn(len(*list))
	switch r.Intn(3) {
	case 0:
		*list = slices.Delete(*list, at, at+1)
	case 1:
		(*list)[at] = (*list)[r.Intn(len(*list))]
	default:
		(*list)[at] = r.Intn(14) - 1
	}
}

// plainCheck goes over the whole module, whatever was told ahead (behind a code all is as it was), and takes the fault that stands first.
func plainCheck(m api.Module) api.Fault {
	if fault := code.Check(m); fault.Code != 0 {
		return fault
	}
	var all []api.Fault
	for f := len(m.Funcs) - 1; f >= 0; f-- {
		for b := len(m.Funcs[f].Blocks) - 1; b >= 0; b-- {
			block := m.Funcs[f].Blocks[b]
			s, _ := judge.New(m, f, b)
			for i, x := range block.Code {
				all = append(all, api.Fault{Code: s.Ins(x), At: f*10000 + b*100 + i})
			}
			all = append(all, api.Fault{Code: s.End(block.End), At: f*10000 + b*100 + 91})
		}
	}
	first := api.Fault{}
	for _, fault := range all {
		if fault.Code != 0 && (first.Code == 0 || fault.At < first.At) {
			first = fault
		}
	}
	return first
}

func TestManyModulesAreAsThePlainOnes(t *testing.T) {
	tally := map[int]int{}
	for seed := range int64(2500) {
		r := maker{rand.New(rand.NewSource(seed))}
		m := r.module()
		for _, x := range []api.Module{m, r.spoil(m), r.spoil(m)} {
			got, want := Check(x), plainCheck(x)
			if got != want {
				t.Fatalf("seed %d: Check = %v, want %v", seed, got, want)
			}
			tally[got.Code]++
			if got.Code != 0 && got.At%100 == 91 {
				tally[-got.Code]++
			}
		}
	}
	if tally[0] < 2500 {
		t.Errorf("only %d of the modules may be run", tally[0])
	}
	for _, kind := range []int{api.ErrRange, api.ErrMany, api.ErrType, api.ErrHeld, api.ErrKept, api.ErrLeft, api.ErrTwice, api.ErrForm} {
		if kind != api.ErrKept && tally[kind] < 5 || tally[-kind] < 5 {
			t.Errorf("the code %d was told %d times, %d of them of ends", kind, tally[kind], tally[-kind])
		}
	}
}
