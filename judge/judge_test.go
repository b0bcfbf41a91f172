package judge

import (
	"fmt"
	"math"
	"slices"
	"strings"
	"testing"

	"copyhold/api"
	"copyhold/code"
	"copyhold/parse"
	"copyhold/types"
)

func num(n int64) api.Ins                { return api.Ins{Op: api.INum, N: n} }
func bin(a, b int) api.Ins               { return api.Ins{Op: api.IBin, A: a, B: b, K: api.KAdd} }
func fresh() api.Ins                     { return api.Ins{Op: api.INew} }
func free(a int) api.Ins                 { return api.Ins{Op: api.IFree, A: a} }
func tuple(a int, args ...int) api.Ins   { return api.Ins{Op: api.ITuple, A: a, Args: args} }
func get(a, k int) api.Ins               { return api.Ins{Op: api.IGet, A: a, K: k} }
func set(a, k, b int) api.Ins            { return api.Ins{Op: api.ISet, A: a, K: k, B: b} }
func array(a, b int) api.Ins             { return api.Ins{Op: api.IArray, A: a, B: b} }
func load(a, b int) api.Ins              { return api.Ins{Op: api.ILoad, A: a, B: b} }
func store(a, b, c int) api.Ins          { return api.Ins{Op: api.IStore, A: a, B: b, C: c} }
func length(a int) api.Ins               { return api.Ins{Op: api.ILen, A: a} }
func comesIn() api.Ins                   { return api.Ins{Op: api.IIn} }
func out(a int) api.Ins                  { return api.Ins{Op: api.IOut, A: a} }
func regs(list ...int) []int             { return list }
func to(b int, r []int, a ...int) api.To { return api.To{Block: b, Regs: r, Args: a} }
func jump(yes api.To) api.End            { return api.End{Op: api.EJump, Yes: yes} }
func fork(a int, yes, no api.To) api.End { return api.End{Op: api.EIf, A: a, Yes: yes, No: no} }
func back(args ...int) api.End           { return api.End{Op: api.ERet, Args: args} }

func call(k int, r []int, args ...int) api.Ins {
	return api.Ins{Op: api.ICall, K: k, Regs: r, Args: args}
}

// wild has numbers that are right in their low bits alone, too.
func wild() []int {
	return []int{-1, -2, -1000, 255, 1 << 16, 1 << 32, 1<<32 + 1, -1 << 32, math.MinInt, math.MinInt + 1, math.MaxInt}
}

func upTo(n int) []int {
	var list []int
	for r := range n {
		list = append(list, r)
	}
	return list
}

func moduleOf(t *testing.T, text string) api.Module {
	t.Helper()
	m, fault := parse.Parse(text)
	if fault.Code != 0 {
		t.Fatalf("%s: no module: %v", text, fault)
	}
	return m
}

func stateAt(t *testing.T, m api.Module, f, b int) *State {
	t.Helper()
	s, fault := New(m, f, b)
	if fault != (api.Fault{}) || s == nil {
		t.Fatalf("New of the block %d of the function %d: %v, %v", b, f, s, fault)
	}
	return s
}

// begun is the beginning of the last block of the last function of a text.
func begun(t *testing.T, text string) *State {
	t.Helper()
	m := moduleOf(t, text)
	f := len(m.Funcs) - 1
	return stateAt(t, m, f, len(m.Funcs[f].Blocks)-1)
}

// look is all that a State tells, each field written out; no list and an empty one are told alike.
func look(s *State) string {
	var has []bool
	for _, r := range append(upTo(api.MaxRegions+2), wild()...) {
		has = append(has, s.Has(r))
	}
	return fmt.Sprint(s.Types(), s.List(), s.Len(), has)
}

// wantIns looks, too, that behind a code all is as it was.
func wantIns(t *testing.T, what string, s *State, x api.Ins, want int) {
	t.Helper()
	ahead := look(s)
	if got := s.Ins(x); got != want {
		t.Errorf("%s: Ins(%+v) = %d, want %d", what, x, got, want)
	}
	if now := look(s); want != 0 && now != ahead {
		t.Errorf("%s: behind the code of %+v: %s, want %s", what, x, now, ahead)
	}
}

// goesOn does instructions that are right.
func goesOn(t *testing.T, s *State, list ...api.Ins) *State {
	t.Helper()
	for i, x := range list {
		wantIns(t, fmt.Sprint("the instruction ", i), s, x, 0)
	}
	return s
}

// wantEnd looks, too, that all is as it was, whatever is answered.
func wantEnd(t *testing.T, what string, s *State, e api.End, want int) {
	t.Helper()
	ahead := look(s)
	if got := s.End(e); got != want {
		t.Errorf("%s: End(%+v) = %d, want %d", what, e, got, want)
	}
	if now := look(s); now != ahead {
		t.Errorf("%s: behind the end %+v: %s, want %s", what, e, now, ahead)
	}
}

func texts(s *State) []string {
	var list []string
	for _, t := range s.Types() {
		list = append(list, types.Text(t))
	}
	return list
}

func wantTypes(t *testing.T, s *State, want ...string) {
	t.Helper()
	if got := texts(s); !slices.Equal(got, want) {
		t.Errorf("types %q, want %q", got, want)
	}
	for _, u := range s.Types() {
		if got := types.Check(u, s.Len()); got != 0 {
			t.Errorf("%v is no type over %d regions: %d", u, s.Len(), got)
		}
	}
}

// wantMade: the instruction is right, and makes just these, behind what was there.
func wantMade(t *testing.T, s *State, x api.Ins, want ...string) {
	t.Helper()
	ahead := texts(s)
	goesOn(t, s, x)
	wantTypes(t, s, append(ahead, want...)...)
}

// wantHeld: there ever were n regions, of which just these are held.
func wantHeld(t *testing.T, s *State, n int, held ...int) {
	t.Helper()
	if got := s.Len(); got != n {
		t.Errorf("Len() = %d, want %d", got, n)
	}
	if got := s.List(); !slices.Equal(got, held) {
		t.Errorf("List() = %v, want %v", got, held)
	}
	for _, r := range append(upTo(api.MaxRegions+2), wild()...) {
		if got, want := s.Has(r), slices.Contains(held, r); got != want {
			t.Errorf("Has(%d) = %v, want %v", r, got, want)
		}
	}
}

const smallest = "func 0 () -> () { block 0 () { ret (); } }"

// severalFuncs has a block of each sort: of as many regions as its function, and of more, with and without values.
const severalFuncs = `
func 0 () -> (int) { block 0 () { ret (); } block 3 (handle 2, int) { ret (); } block 16 () { ret (); } }
func 6 (tuple 5 (handle 4, array 3)) -> () { block 6 (tuple 5 (handle 4, array 3)) { ret (); } }
func 2 (int, handle 1) -> () {
	block 2 (int, handle 1) { new; free 2; ret (); }
	block 5 (tuple 0 (tuple 1 (tuple 2 (int), array 4)), handle 0, int, int, int, int, int, array 4) { ret (); }
}`

// P11.1

func TestNewOfEachBlock(t *testing.T) {
	m := moduleOf(t, severalFuncs)
	for _, want := range []struct {
		f, b, n int
		types   []string
	}{
		{0, 0, 0, nil},
		{0, 1, 3, []string{"handle 2", "int"}},
		{0, 2, 16, nil},
		{1, 0, 6, []string{"tuple 5 (handle 4, array 3)"}},
		{2, 0, 2, []string{"int", "handle 1"}},
		{2, 1, 5, []string{"tuple 0 (tuple 1 (tuple 2 (int), array 4))", "handle 0", "int", "int", "int", "int", "int", "array 4"}},
	} {
		s := stateAt(t, m, want.f, want.b)
		wantTypes(t, s, want.types...)
		wantHeld(t, s, want.n, upTo(want.n)...)
	}
}

func TestNewStandsAheadOfTheFirstInstruction(t *testing.T) {
	s := begun(t, "func 0 () -> (int) { block 0 () { num 5; new; ret (0); } }")
	wantTypes(t, s)
	wantHeld(t, s, 0)
	wantIns(t, "a value that the block's own code would make", s, out(0), api.ErrRange)
}

// New has no need of code that may be run.
func TestNewOfModulesThatMayNotBeRun(t *testing.T) {
	s := begun(t, "func 0 () -> (int) { block 0 () { free 7; get 5 3; load 9 9; call 0 <1, 1> (9); jump 0 <9> (9); } }")
	wantTypes(t, s)
	wantHeld(t, s, 0)
}

func wantNoState(t *testing.T, what string, m api.Module, f, b int, want api.Fault) {
	t.Helper()
	if s, got := New(m, f, b); s != nil || got != want {
		t.Errorf("%s: New of the block %d of the function %d: %v, %v, want none, %v", what, b, f, s, got, want)
	}
}

func TestNewOfBlocksThatAreNotThere(t *testing.T) {
	m, none := moduleOf(t, severalFuncs), api.Fault{Code: api.ErrRange, At: -1}
	for f, blocks := range []int{3, 1, 2} {
		for _, b := range append(wild(), blocks, blocks+1, 11, 12) {
			wantNoState(t, "no block", m, f, b, none)
		}
	}
	for _, f := range append(wild(), 3, 4, 7, 8) {
		for _, b := range append(wild(), 0, 1, 2, 3) {
			wantNoState(t, "no function", m, f, b, none)
		}
	}
}

func TestNewOfWhatIsNoModule(t *testing.T) {
	spoilt := map[string]func(m *api.Module){
		"no functions":             func(m *api.Module) { m.Funcs = nil },
		"too many functions":       func(m *api.Module) { m.Funcs = slices.Repeat(m.Funcs, 3) },
		"Regs below 0":             func(m *api.Module) { m.Funcs[1].Regs = -1 },
		"a Param of no region":     func(m *api.Module) { m.Funcs[2].Params[1].R = 2 },
		"too many Results":         func(m *api.Module) { m.Funcs[2].Results = make([]api.Type, 9) },
		"a Result of no kind":      func(m *api.Module) { m.Funcs[2].Results = make([]api.Type, 1) },
		"no blocks":                func(m *api.Module) { m.Funcs[2].Blocks = nil },
		"a Param of the first":     func(m *api.Module) { m.Funcs[0].Params = []api.Type{{Kind: api.TInt}} },
		"a block of few regions":   func(m *api.Module) { m.Funcs[2].Blocks[1].Regs = 1 },
		"a block of many regions":  func(m *api.Module) { m.Funcs[2].Blocks[1].Regs = 17 },
		"another first block":      func(m *api.Module) { m.Funcs[2].Blocks[0].Params[0] = api.Type{Kind: api.THandle} },
		"a type that is too deep":  func(m *api.Module) { deepen(&m.Funcs[2].Blocks[1].Params[0]) },
		"too many instructions":    func(m *api.Module) { m.Funcs[0].Blocks[0].Code = slices.Repeat([]api.Ins{fresh()}, 41) },
		"an instruction's form":    func(m *api.Module) { m.Funcs[2].Blocks[0].Code[1].B = 1 },
		"an instruction's kind":    func(m *api.Module) { m.Funcs[2].Blocks[0].Code[0].Op = 15 },
		"a call of no function":    func(m *api.Module) { m.Funcs[2].Blocks[0].Code[0] = call(3, nil) },
		"an end of no kind":        func(m *api.Module) { m.Funcs[1].Blocks[0].End.Op = 0 },
		"an end that leads off":    func(m *api.Module) { m.Funcs[1].Blocks[0].End = jump(to(1, nil)) },
		"two faults: the first is": func(m *api.Module) { m.Funcs[2].Regs, m.Funcs[1].Blocks[0].End.A = -1, 1 },
	}
	for what, spoil := range spoilt {
		m := moduleOf(t, severalFuncs)
		spoil(&m)
		want := code.Check(m)
		if want.Code == 0 {
			t.Fatalf("%s: a module", what)
		}
		for _, f := range []int{0, 1, 2, 3, -1, math.MaxInt} {
			for _, b := range []int{0, 1, 2, -1, math.MinInt} {
				wantNoState(t, what, m, f, b, want)
			}
		}
	}
	m := moduleOf(t, smallest)
	m.Funcs[0].Blocks[0].Code = []api.Ins{num(1), fresh(), {Op: api.IOut, B: 1}}
	wantNoState(t, "told at its place", m, 0, 0, api.Fault{Code: api.ErrForm, At: 2})
	wantNoState(t, "told ahead of no such block", m, 5, 5, api.Fault{Code: api.ErrForm, At: 2})
	wantNoState(t, "nothing at all", api.Module{}, 0, 0, api.Fault{Code: api.ErrMany, At: -1})
}

// deepen puts a type into as many tuples as may be in one another.
func deepen(u *api.Type) {
	for range api.MaxNested {
		*u = api.Type{Kind: api.TTuple, L: []api.Type{*u}}
	}
}

// What holds everywhere

func TestTwoStatesKnowNothingOfEachOther(t *testing.T) {
	m := moduleOf(t, severalFuncs)
	a, b, c := stateAt(t, m, 2, 1), stateAt(t, m, 2, 1), stateAt(t, m, 0, 1)
	goesOn(t, c, free(0))
	goesOn(t, a, fresh(), num(1), tuple(8, 9, 7), free(8))
	wantHeld(t, a, 6, 0, 1, 2, 3, 4)
	wantHeld(t, b, 5, 0, 1, 2, 3, 4)
	wantHeld(t, c, 3, 0, 1)
	if got := len(b.Types()); got != 8 {
		t.Errorf("%d values in the second, want 8", got)
	}
	goesOn(t, b, num(2), fresh(), fresh())
	wantHeld(t, b, 7, upTo(7)...)
	wantHeld(t, a, 6, 0, 1, 2, 3, 4)
	if got, want := texts(a)[8:], []string{"handle 5", "int", "tuple 5 (int, array 4)"}; !slices.Equal(got, want) {
		t.Errorf("values in the first %q, want %q", got, want)
	}
	if got, want := texts(b)[8:], []string{"int", "handle 5", "handle 6"}; !slices.Equal(got, want) {
		t.Errorf("values in the second %q, want %q", got, want)
	}
}

// scribble changes types, at any depth, and what lies behind the lists.
func scribble(list []api.Type) {
	for i := range list {
		scribble(list[i].L)
		list[i] = api.Type{Kind: 77, R: 99, L: list[i].L}
	}
	for i := range list[len(list):cap(list)] {
		list[:cap(list)][len(list)+i].Kind = 78
	}
}

func TestTypesThatWereAnsweredAreNewMemory(t *testing.T) {
	s := begun(t, severalFuncs)
	goesOn(t, s, get(0, 0), tuple(1, 0), get(9, 0), num(1))
	ahead := look(s)
	first, second := s.Types(), s.Types()
	scribble(first)
	_ = append(first[:3], api.Type{Kind: 76})
	if fmt.Sprint(second) != fmt.Sprint(s.Types()) {
		t.Errorf("the second answer is %v now", second)
	}
	if now := look(s); now != ahead {
		t.Errorf("the State is %s, want %s", now, ahead)
	}
	wantMade(t, s, get(9, 0), "tuple 0 (tuple 1 (tuple 2 (int), array 4))")
	wantEnd(t, "with types of its own", s, jump(to(1, upTo(5), 12, 1, 2, 3, 4, 5, 6, 7)), 0)
	_ = append(s.Types(), api.Type{Kind: 75})
	wantMade(t, s, comesIn(), "int")
}

func TestNoTwoTypesOfOneAnswerShareMemory(t *testing.T) {
	s := begun(t, "func 0 () -> () { block 0 () { ret (); } block 1 (handle 0, tuple 0 (tuple 0 (int, int), int)) { ret (); } }")
	goesOn(t, s, get(1, 0), get(1, 0), tuple(0, 1, 1, 2), get(4, 0), tuple(0, 4, 4))
	for i := range s.Types() {
		l, want := s.Types(), texts(s)
		scribble(l[i].L)
		for k, u := range l {
			if k != i && types.Text(u) != want[k] {
				t.Errorf("the type %d was changed, and %d is %s, want %s", i, k, types.Text(u), want[k])
			}
		}
	}
	l := s.Types()[6].L
	scribble(l[0].L)
	if got, want := types.Text(l[1]), texts(s)[4]; got != want {
		t.Errorf("the field 0 was changed, and the field 1 is %s, want %s", got, want)
	}
}

func TestAListThatWasAnsweredIsNewMemory(t *testing.T) {
	s := begun(t, severalFuncs)
	first, second := s.List(), s.List()
	first[0], first[4] = 9, -1
	_ = append(first[:1], 7)
	wantHeld(t, s, 5, upTo(5)...)
	if !slices.Equal(second, upTo(5)) {
		t.Errorf("the second list is %v now", second)
	}
}

func TestAModuleThatIsHandedInStaysAsItWas(t *testing.T) {
	m := moduleOf(t, severalFuncs)
	params := append(m.Funcs[2].Blocks[1].Params, api.Type{Kind: 55}, api.Type{Kind: 56})
	m.Funcs[2].Blocks[1].Params = params[:8]
	ahead := fmt.Sprint(m)
	s := stateAt(t, m, 2, 1)
	goesOn(t, s, num(1), fresh(), tuple(9, 0), get(10, 0), free(9))
	wantIns(t, "an Arg of another type", s, call(2, regs(0, 1), 2, 8), api.ErrType)
	wantEnd(t, "a Reg too few", s, jump(to(1, upTo(4))), api.ErrMany)
	if now := fmt.Sprint(m); now != ahead {
		t.Errorf("the module is %s, want %s", now, ahead)
	}
	if params[8].Kind != 55 || params[9].Kind != 56 {
		t.Errorf("behind the list: %v", params[8:])
	}
}

// wreck changes everything that a module has.
func wreck(m api.Module) {
	for f := range m.Funcs {
		x := &m.Funcs[f]
		scribble(x.Params)
		scribble(x.Results)
		for b := range x.Blocks {
			scribble(x.Blocks[b].Params)
			x.Blocks[b] = api.Block{Regs: 1, Params: make([]api.Type, 3)}
		}
		*x = api.Func{Regs: 4, Params: make([]api.Type, 2), Results: make([]api.Type, 2)}
	}
}

func TestAModuleThatIsHandedInIsNotKept(t *testing.T) {
	const text = `
func 0 () -> () { block 0 () { ret (); } }
func 1 (tuple 0 (int)) -> (array 0) {
	block 1 (tuple 0 (int)) { ret (); }
	block 2 (tuple 1 (tuple 0 (int), int), handle 0, handle 1) { ret (); }
}`
	m := moduleOf(t, text)
	s := stateAt(t, m, 1, 1)
	ahead := look(s)
	wreck(m)
	if now := look(s); now != ahead {
		t.Errorf("the State is %s, want %s", now, ahead)
	}
	wantMade(t, s, get(0, 0), "tuple 0 (int)")
	wantMade(t, s, call(1, regs(0), 3), "array 0")
	wantIns(t, "a region of the function's", s, free(1), api.ErrKept)
	wantEnd(t, "to its own block", s, jump(to(1, regs(0, 1), 0, 1, 2)), 0)
	goesOn(t, s, free(2))
	wantEnd(t, "to the first block", s, jump(to(0, regs(0), 3)), 0)
	wantEnd(t, "back", s, back(4), 0)
	wantIns(t, "as many functions as there were", s, call(2, nil), api.ErrRange)
	wantEnd(t, "as many blocks as there were", s, jump(to(2, regs(0))), api.ErrRange)
}

func TestAnInstructionThatIsHandedInStaysAsItWasAndIsNotKept(t *testing.T) {
	s := begun(t, `
func 0 () -> () { block 0 () { ret (); } }
func 2 (int, handle 1) -> (tuple 1 (array 0)) { block 2 (int, handle 1) { ret (); } }
func 0 () -> () { block 0 () { ret (); } block 3 (handle 0, handle 1, int, handle 2) { ret (); } }`)
	args, given := []int{2, 0, 1, 9, 9}, []int{2, 1, 7}
	x, y := tuple(3, args[:3]...), api.Ins{Op: api.ICall, K: 1, Regs: given[:2], Args: []int{2, 1}}
	wantMade(t, s, x, "tuple 2 (int, handle 0, handle 1)")
	wantMade(t, s, y, "tuple 1 (array 2)")
	if !slices.Equal(args, []int{2, 0, 1, 9, 9}) || !slices.Equal(given, []int{2, 1, 7}) || !slices.Equal(y.Args, []int{2, 1}) {
		t.Errorf("what was handed in is %v, %v, %v now", args, given, y.Args)
	}
	args[0], args[1], given[0], given[1], y.Args[0] = 3, 3, 0, 0, 0
	wantTypes(t, s, "handle 0", "handle 1", "int", "handle 2", "tuple 2 (int, handle 0, handle 1)", "tuple 1 (array 2)")
	wantMade(t, s, get(4, 1), "handle 0")
}

func TestAnEndThatIsHandedInStaysAsItWas(t *testing.T) {
	s := begun(t, "func 0 () -> (int) { block 0 () { ret (); } block 2 (int, handle 1, handle 0) { ret (); } }")
	list, args := []int{1, 0, 5}, []int{0, 2, 1, 8}
	e := fork(0, api.To{Block: 1, Regs: list[:2], Args: args[:3]}, api.To{Block: 1, Regs: list[:2], Args: args[:3]})
	ahead := fmt.Sprint(e, list, args)
	wantEnd(t, "both right", s, e, 0)
	e.No.Regs = list
	wantEnd(t, "the second wrong", s, e, api.ErrMany)
	e.No.Regs = list[:2]
	if now := fmt.Sprint(e, list, args); now != ahead {
		t.Errorf("what was handed in is %s, want %s", now, ahead)
	}
	list[0], args[0] = 0, 1
	wantEnd(t, "asked anew", s, e, api.ErrTwice)
}

// The examples of the document

func TestTheExamples(t *testing.T) {
	s := begun(t, smallest)
	goesOn(t, s, fresh(), num(1), tuple(0, 1), free(0))
	wantTypes(t, s, "handle 0", "int", "tuple 0 (int)")
	wantIns(t, "get of a region that was freed", s, get(2, 0), api.ErrHeld)
	wantEnd(t, "all is freed", s, back(), 0)

	s = begun(t, "func 0 () -> () { block 0 () { ret (); } block 1 (handle 0) { ret (); } }")
	goesOn(t, s, fresh(), free(0))
	wantEnd(t, "the second is handed on", s, jump(to(1, regs(1), 1)), 0)

	s = goesOn(t, begun(t, smallest), fresh())
	wantEnd(t, "a region that is left", s, back(), api.ErrLeft)
}

func TestWhatIsCaught(t *testing.T) {
	if got := caught(func() { must(true, api.ErrDeep) }); got != 0 {
		t.Errorf("work that is done: %d", got)
	}
	if got := caught(func() { must(false, api.ErrDeep) }); got != api.ErrDeep {
		t.Errorf("work that gave up: %d", got)
	}
	defer func() {
		if x := recover(); x != "another" {
			t.Errorf("another panic: %v", x)
		}
	}()
	caught(func() { panic("another") })
}

// nestedText is the text of a type within so many tuples at the region 0.
func nestedText(inner string, around int) string {
	return strings.Repeat("tuple 0 (", around) + inner + strings.Repeat(")", around)
}
