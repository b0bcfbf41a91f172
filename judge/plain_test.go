package judge

import (
	"math/rand"
	"slices"
	"testing"

	"copyhold/api"
	"copyhold/code"
)

// plain is the chapter's own words over plain lists: which regions there ever were (held or not), and which values.
type plain struct {
	m      api.Module
	f      int
	held   []bool
	values []api.Type
}

// ledger notes all codes in the order in which the chapter names them, whatever was found ahead.
type ledger []int

func (l *ledger) note(code int, wrong bool) {
	if wrong {
		*l = append(*l, code)
	}
}

func (l ledger) first() int { return append(l, 0)[0] }

func plainOf(m api.Module, f, b int) *plain {
	block := code.Own(m).Funcs[f].Blocks[b]
	return &plain{m, f, slices.Repeat([]bool{true}, block.Regs), block.Params}
}

func (p *plain) has(r int) bool { return r >= 0 && r < len(p.held) && p.held[r] }

func (p *plain) list() []int {
	var list []int
	for r := range p.held {
		if p.held[r] {
			list = append(list, r)
		}
	}
	return list
}

// value answers a type of no kind where there is no such value.
func (p *plain) value(l *ledger, a int) api.Type {
	l.note(api.ErrRange, a < 0 || a >= len(p.values))
	if len(*l) > 0 {
		return api.Type{R: -1}
	}
	return p.values[a]
}

func (p *plain) kind(l *ledger, a, kind int, held bool) api.Type {
	t := p.value(l, a)
	l.note(api.ErrType, t.Kind != kind)
	l.note(api.ErrHeld, held && !p.has(t.R))
	return t
}

func (p *plain) args(l *ledger, args []int, params []api.Type, names []int) {
	l.note(api.ErrMany, len(args) != len(params))
	for i := range min(len(args), len(params)) {
		t := p.value(l, args[i])
		l.note(api.ErrType, !alike(t, named(params[i], names)))
	}
}

// named is the type with the region names[i] for each i; there may be too few of them.
func named(t api.Type, names []int) api.Type {
	if t.Kind != api.TInt && t.R < len(names) {
		t.R = names[t.R]
	}
	t.L = slices.Clone(t.L)
	for i := range t.L {
		t.L[i] = named(t.L[i], names)
	}
	return t
}

func alike(a, b api.Type) bool {
	if a.Kind != b.Kind || a.R != b.R || len(a.L) != len(b.L) {
		return false
	}
	for i := range a.L {
		if !alike(a.L[i], b.L[i]) {
			return false
		}
	}
	return true
}

func depth(t api.Type) int {
	deepest := 0
	for _, u := range t.L {
		deepest = max(deepest, 1+depth(u))
	}
	return deepest
}

// asks notes what an instruction asks, and answers what it would make.
func (p *plain) asks(l *ledger, x api.Ins) []api.Type {
	number := []api.Type{{Kind: api.TInt}}
	switch x.Op {
	case api.INum, api.IIn:
		return number
	case api.IBin:
		p.kind(l, x.A, api.TInt, false)
		p.kind(l, x.B, api.TInt, false)
		return number
	case api.INew:
		l.note(api.ErrMany, len(p.held) == 16)
		return []api.Type{{Kind: api.THandle, R: len(p.held)}}
	case api.IFree:
		t := p.kind(l, x.A, api.THandle, true)
		l.note(api.ErrKept, t.R < p.m.Funcs[p.f].Regs)
	case api.ITuple:
		t := api.Type{Kind: api.TTuple, R: p.kind(l, x.A, api.THandle, true).R}
		for _, a := range x.Args {
			t.L = append(t.L, p.value(l, a))
		}
		l.note(api.ErrDeep, depth(t) > 4)
		return []api.Type{t}
	case api.IGet, api.ISet:
		t := p.kind(l, x.A, api.TTuple, true)
		l.note(api.ErrType, len(t.L) <= x.K)
		if len(*l) == 0 && x.Op == api.IGet {
			return []api.Type{t.L[x.K]}
		} else if len(*l) == 0 {
			b := p.value(l, x.B)
			l.note(api.ErrType, !alike(b, t.L[x.K]))
		}
	case api.IArray:
		t := p.kind(l, x.A, api.THandle, true)
		p.kind(l, x.B, api.TInt, false)
		return []api.Type{{Kind: api.TArray, R: t.R}}
	case api.ILoad, api.IStore, api.ILen:
		p.kind(l, x.A, api.TArray, true)
		if x.Op != api.ILen {
			p.kind(l, x.B, api.TInt, false)
		}
		if x.Op != api.IStore {
			return number
		}
		p.kind(l, x.C, api.TInt, false)
	case api.IOut:
		p.kind(l, x.A, api.TInt, false)
	case api.ICall:
		return p.asksCall(l, x)
	}
	return nil
}

func (p *plain) asksCall(l *ledger, x api.Ins) (made []api.Type) {
	f := p.m.Funcs[x.K]
	l.note(api.ErrMany, len(x.Regs) != f.Regs)
	for i, r := range x.Regs {
		l.note(api.ErrHeld, !p.has(r))
		l.note(api.ErrTwice, slices.Index(x.Regs, r) < i)
	}
	p.args(l, x.Args, f.Params, x.Regs)
	for _, t := range f.Results {
		made = append(made, named(t, x.Regs))
	}
	return made
}

func (p *plain) ins(x api.Ins) int {
	var l ledger
	form := code.Ins(p.m, x)
	if form != 0 {
		return form
	}
	made := p.asks(&l, x)
	l.note(api.ErrMany, len(made) > 0 && len(p.values)+len(made) > 80)
	if l.first() != 0 {
		return l.first()
	}
	if x.Op == api.INew {
		p.held = append(p.held, true)
	} else if x.Op == api.IFree {
		p.held[p.values[x.A].R] = false
	}
	p.values = append(p.values, made...)
	return 0
}

func (p *plain) end(e api.End) int {
	var l ledger
	f := p.m.Funcs[p.f]
	form := code.End(f, e)
	if form != 0 {
		return form
	}
	switch e.Op {
	case api.EJump:
		p.to(&l, f, e.Yes)
	case api.EIf:
		p.kind(&l, e.A, api.TInt, false)
		p.to(&l, f, e.Yes)
		p.to(&l, f, e.No)
	case api.ERet:
		p.args(&l, e.Args, f.Results, upTo(f.Regs))
		for _, r := range p.list() {
			l.note(api.ErrLeft, r >= f.Regs)
		}
	}
	return l.first()
}

func (p *plain) to(l *ledger, f api.Func, x api.To) {
	b := f.Blocks[x.Block]
	l.note(api.ErrMany, len(x.Regs) != b.Regs)
	for r := range min(f.Regs, len(x.Regs)) {
		l.note(api.ErrKept, x.Regs[r] != r)
	}
	for i, r := range x.Regs {
		l.note(api.ErrHeld, !p.has(r))
		l.note(api.ErrTwice, slices.Index(x.Regs, r) < i)
	}
	for _, r := range p.list() {
		l.note(api.ErrLeft, !slices.Contains(x.Regs, r))
	}
	p.args(l, x.Args, b.Params, x.Regs)
}

func samePlain(s *State, p *plain) bool {
	for r := -1; r <= api.MaxRegions; r++ {
		if s.Has(r) != p.has(r) {
			return false
		}
	}
	return slices.EqualFunc(s.Types(), p.values, alike) && slices.Equal(s.List(), p.list()) && s.Len() == len(p.held)
}

// Each kind of instruction with all small numbers in its fields.
func TestAllSmallInstructionsAreAsThePlainOnes(t *testing.T) {
	m := moduleOf(t, `
func 0 () -> (int) { block 0 () { ret (); } }
func 1 (int) -> (int) {
	block 1 (int) { ret (); }
	block 3 (int, handle 0, handle 1, handle 2, array 1, array 2, tuple 1 (int, array 2), tuple 2 (int)) { ret (); }
}`)
	at := func() (*State, *plain) {
		s, p := stateAt(t, m, 1, 1), plainOf(m, 1, 1)
		return goesOn(t, s, free(3)), func() *plain { p.ins(free(3)); return p }()
	}
	s, p := at()
	for op := 0; op <= 15; op++ {
		for i := range 11 * 11 * 11 * 4 {
			x := api.Ins{Op: op, A: i%11 - 1, B: i/11%11 - 1, C: i/121%11 - 1, K: i / 1331}
			for _, y := range []api.Ins{x, bare(x), {Op: op, A: x.A, Args: []int{x.B, x.C}}, {Op: op, K: x.K, Regs: []int{x.A}, Args: []int{x.B}}} {
				got, want := s.Ins(y), p.ins(y)
				if got != want {
					t.Fatalf("Ins(%+v) = %d, want %d", y, got, want)
				}
				if !samePlain(s, p) {
					t.Fatalf("behind %+v: %s, want %v, %v", y, look(s), p.values, p.list())
				}
				if want == 0 {
					s, p = at()
				}
			}
		}
	}
}

// bare is the instruction without those fields that its kind does not have.
func bare(x api.Ins) api.Ins {
	switch x.Op {
	case api.IBin, api.ISet:
		x.C = 0
	case api.IStore:
		x.K = 0
	case api.IGet:
		x.B, x.C = 0, 0
	case api.IArray, api.ILoad:
		x.C, x.K = 0, 0
	case api.IFree, api.ILen, api.IOut, api.ITuple:
		x.B, x.C, x.K = 0, 0, 0
	default:
		x.A, x.B, x.C, x.K = 0, 0, 0, 0
	}
	return x
}

// maker makes modules, and instructions and ends that are right for the most part, so that runs come far.
type maker struct{ *rand.Rand }

func (r maker) slips() bool { return r.Intn(25) == 0 }

func (r maker) typ(regs, deep int) api.Type {
	t := api.Type{Kind: api.TInt}
	if regs == 0 || r.Intn(3) == 0 {
		return t
	}
	t = api.Type{Kind: api.THandle + r.Intn(3), R: r.Intn(regs)}
	if t.Kind == api.TTuple && deep > 0 {
		t.L = r.types(regs, deep-1)
	}
	return t
}

func (r maker) types(regs, deep int) []api.Type {
	var list []api.Type
	for range r.Intn(4) {
		list = append(list, r.typ(regs, deep))
	}
	return list
}

func (r maker) module() api.Module {
	var m api.Module
	for f := range 2 + r.Intn(3) {
		x := api.Func{Regs: min(f, 1) * r.Intn(4)}
		x.Results = r.types(x.Regs, 2)
		if f > 0 {
			x.Params = r.types(x.Regs, 3)
		}
		x.Blocks = []api.Block{{Regs: x.Regs, Params: x.Params, End: back()}}
		for more := range 7 {
			n := x.Regs + more
			x.Blocks = append(x.Blocks, api.Block{Regs: n, Params: append(r.types(n, 3), r.types(n, 1)...), End: back()})
		}
		m.Funcs = append(m.Funcs, x)
	}
	return m
}

// choice is a value for which ok holds, if there is one, but for slips.
func (r maker) choice(p *plain, ok func(t api.Type) bool) int {
	n := len(p.values)
	if r.slips() {
		return r.Intn(n+4) - 2
	}
	for _, a := range r.Perm(n) {
		if ok(p.values[a]) {
			return a
		}
	}
	return r.Intn(n + 1)
}

func (r maker) kind(p *plain, kind int) int {
	return r.choice(p, func(t api.Type) bool { return t.Kind == kind && (kind == api.TInt || p.has(t.R) || r.Intn(20) == 0) })
}

func (r maker) like(p *plain, t api.Type) int {
	return r.choice(p, func(u api.Type) bool { return alike(u, t) })
}

func (r maker) likes(p *plain, list []api.Type, names []int) []int {
	var args []int
	for _, t := range list {
		args = append(args, r.like(p, named(t, names)))
	}
	return r.spoilt(args, len(p.values))
}

// spoilt changes, drops, or doubles one of a list, by a slip.
func (r maker) spoilt(list []int, n int) []int {
	if !r.slips() || len(list) == 0 {
		return list
	}
	at := r.Intn(len(list))
	switch r.Intn(4) {
	case 0:
		return slices.Delete(list, at, at+1)
	case 1:
		return slices.Insert(list, at, list[r.Intn(len(list))])
	case 2:
		list[at] = list[r.Intn(len(list))]
	default:
		list[at] = r.Intn(n+3) - 2
	}
	return list
}

func (r maker) shuffled(list []int) []int {
	r.Shuffle(len(list), func(i, k int) { list[i], list[k] = list[k], list[i] })
	return list
}

func (r maker) ins(p *plain) api.Ins {
	op := r.Intn(16)
	x := api.Ins{Op: op}
	switch op {
	case api.IBin:
		x = bin(r.kind(p, api.TInt), r.kind(p, api.TInt))
	case api.IFree, api.IOut, api.ILen:
		kinds := map[int]int{api.IFree: api.THandle, api.IOut: api.TInt, api.ILen: api.TArray}
		x.A = r.kind(p, kinds[op])
	case api.ITuple:
		x.A = r.kind(p, api.THandle)
		for range r.Intn(4) {
			x.Args = append(x.Args, r.choice(p, func(t api.Type) bool { return r.Intn(3) == 0 || depth(t) > 1 }))
		}
	case api.IGet, api.ISet:
		x.A = r.kind(p, api.TTuple)
		x.K = r.Intn(3)
		if op == api.ISet {
			t := p.value(&ledger{}, x.A)
			if len(t.L) > 0 {
				x.K = r.Intn(len(t.L))
				x.B = r.like(p, t.L[x.K])
			}
		}
	case api.IArray:
		x = array(r.kind(p, api.THandle), r.kind(p, api.TInt))
	case api.ILoad:
		x = load(r.kind(p, api.TArray), r.kind(p, api.TInt))
	case api.IStore:
		x = store(r.kind(p, api.TArray), r.kind(p, api.TInt), r.kind(p, api.TInt))
	case api.ICall:
		x.K = r.Intn(len(p.m.Funcs))
		f := p.m.Funcs[x.K]
		held := r.shuffled(p.list())
		x.Regs = r.spoilt(slices.Clone(held[:min(len(held), f.Regs)]), len(p.held))
		x.Args = r.likes(p, f.Params, x.Regs)
	}
	if r.Intn(60) == 0 {
		x.B++
	}
	return x
}

func (r maker) to(p *plain) api.To {
	f := p.m.Funcs[p.f]
	held := p.list()
	fits := func(b int) bool { return f.Blocks[b].Regs == len(held) }
	x := api.To{Block: r.Intn(len(f.Blocks))}
	for range 12 {
		if fits(x.Block) {
			break
		}
		x.Block = r.Intn(len(f.Blocks))
	}
	r.shuffled(held[min(f.Regs, len(held)):])
	x.Regs = r.spoilt(held, len(p.held))
	if r.slips() {
		r.shuffled(x.Regs)
	}
	x.Args = r.likes(p, f.Blocks[x.Block].Params, x.Regs)
	return x
}

func (r maker) end(p *plain) api.End {
	switch r.Intn(7) {
	case 0:
		return back(r.likes(p, p.m.Funcs[p.f].Results, upTo(6))...)
	case 1, 2, 3:
		return jump(r.to(p))
	case 4, 5:
		return fork(r.kind(p, api.TInt), r.to(p), r.to(p))
	}
	return api.End{Op: r.Intn(5), A: r.Intn(2), Yes: r.to(p), No: r.to(p), Args: r.likes(p, p.values[:min(2, len(p.values))], upTo(16))}
}

// tally counts how often each code was told of each kind.
type tally map[[2]int]int

func (n tally) want(t *testing.T, op int, codes ...int) {
	t.Helper()
	for _, code := range codes {
		if n[[2]int{op, code}] < 5 {
			t.Errorf("the runs told the code %d of the kind %d only %d times", code, op, n[[2]int{op, code}])
		}
	}
}

func TestLongRunsAreAsThePlainOnes(t *testing.T) {
	told, ended := tally{}, tally{}
	for seed := range int64(1500) {
		r := maker{rand.New(rand.NewSource(seed))}
		m := r.module()
		f := r.Intn(len(m.Funcs))
		b := r.Intn(len(m.Funcs[f].Blocks))
		s, p := stateAt(t, m, f, b), plainOf(m, f, b)
		for step := range 40 + 120*(int(seed)%5/4) {
			x, e := r.ins(p), r.end(p)
			got, want := s.End(e), p.end(e)
			ended[[2]int{e.Op, want}]++
			if got != want {
				t.Fatalf("seed %d, step %d: End(%+v) = %d, want %d; held %v, types %q", seed, step, e, got, want, p.list(), texts(s))
			}
			got, want = s.Ins(x), p.ins(x)
			told[[2]int{x.Op, want}]++
			if got != want || !samePlain(s, p) {
				t.Fatalf("seed %d, step %d: Ins(%+v) = %d, want %d; held %v, want %v; types %q", seed, step, x, got, want, s.List(), p.list(), texts(s))
			}
		}
	}
	wantTallies(t, told, ended)
}

// wantTallies: the runs came to each code that the chapter names.
func wantTallies(t *testing.T, told, ended tally) {
	t.Helper()
	told.want(t, 0, api.ErrKind)
	for op := api.INum; op <= api.ICall; op++ {
		told.want(t, op, 0)
	}
	for _, op := range []int{api.INum, api.IIn, api.IBin, api.INew, api.ITuple, api.IGet, api.IArray, api.ILoad, api.ILen, api.ICall} {
		told.want(t, op, api.ErrMany)
	}
	for _, op := range []int{api.IBin, api.IFree, api.ITuple, api.IGet, api.ISet, api.IArray, api.ILoad, api.IStore, api.ILen, api.IOut, api.ICall} {
		told.want(t, op, api.ErrRange, api.ErrType)
	}
	for _, op := range []int{api.IFree, api.ITuple, api.IGet, api.ISet, api.IArray, api.ILoad, api.IStore, api.ILen, api.ICall} {
		told.want(t, op, api.ErrHeld)
	}
	told.want(t, api.IFree, api.ErrKept)
	told.want(t, api.ITuple, api.ErrDeep)
	told.want(t, api.ICall, api.ErrTwice)
	for _, op := range []int{api.EJump, api.EIf} {
		ended.want(t, op, 0, api.ErrMany, api.ErrKept, api.ErrHeld, api.ErrTwice, api.ErrLeft, api.ErrRange, api.ErrType)
	}
	ended.want(t, api.ERet, 0, api.ErrMany, api.ErrRange, api.ErrType, api.ErrLeft)
	ended.want(t, 0, api.ErrKind)
}

// Numbers of any size in any field: each call answers, as the plain one.
func TestWildInstructionsAndEndsAreAsThePlainOnes(t *testing.T) {
	m := moduleOf(t, severalFuncs)
	r := rand.New(rand.NewSource(1))
	pick := func() int {
		if r.Intn(3) == 0 {
			return wild()[r.Intn(len(wild()))]
		}
		return r.Intn(20) - 2
	}
	picks := func() []int {
		list := make([]int, r.Intn(4))
		for i := range list {
			list[i] = pick()
		}
		return list
	}
	for range 300 {
		f := r.Intn(3)
		b := r.Intn(len(m.Funcs[f].Blocks))
		s, p := stateAt(t, m, f, b), plainOf(m, f, b)
		for range 60 {
			x := api.Ins{Op: r.Intn(16), A: pick(), B: pick(), C: pick(), K: pick(), Regs: picks(), Args: picks()}
			if r.Intn(4) > 0 {
				x = onlyFields(x)
			}
			e := api.End{Op: r.Intn(5), Yes: api.To{Block: pick(), Regs: picks(), Args: picks()}, Args: picks()}
			if e.Op == api.ERet {
				e.Yes = api.To{}
			} else if e.Args = nil; e.Op == api.EIf {
				e.A, e.No = pick(), api.To{Block: pick(), Regs: picks(), Args: picks()}
			}
			if got, want := s.End(e), p.end(e); got != want {
				t.Fatalf("End(%+v) = %d, want %d", e, got, want)
			}
			if got, want := s.Ins(x), p.ins(x); got != want || !samePlain(s, p) {
				t.Fatalf("Ins(%+v) = %d, want %d", x, got, want)
			}
		}
	}
}

// onlyFields leaves lists, too, to those kinds that have them.
func onlyFields(x api.Ins) api.Ins {
	switch x.Op {
	case api.ITuple:
		x.Regs = nil
	case api.ICall:
		return api.Ins{Op: x.Op, K: x.K, Regs: x.Regs, Args: x.Args}
	default:
		x.Regs, x.Args = nil, nil
	}
	return bare(x)
}
