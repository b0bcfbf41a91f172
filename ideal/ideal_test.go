package ideal

import (
	"fmt"
	"math"
	"slices"
	"strings"
	"testing"

	"copyhold/api"
	"copyhold/code"
	"copyhold/parse"
)

func moduleOf(t *testing.T, text string) api.Module {
	t.Helper()
	m, fault := parse.Parse(text)
	if fault.Code != 0 {
		t.Fatalf("%s: no module: %v", text, fault)
	}
	return m
}

// header is the beginning of a first function with so many results.
func header(results int) string {
	return "func 0 () -> (" + strings.Join(slices.Repeat([]string{"int"}, results), ", ") + ") { "
}

// block is a module of one block, with so many results.
func block(t *testing.T, results int, body string) api.Module {
	t.Helper()
	return moduleOf(t, header(results)+"block 0 () { "+body+" } }")
}

// codeOf is a module of one block of such instructions, without results.
func codeOf(list ...api.Ins) api.Module {
	return api.Module{Funcs: []api.Func{{Blocks: []api.Block{{Code: list, End: api.End{Op: api.ERet}}}}}}
}

// repeated is an instruction as often as that, with blanks between.
func repeated(ins string, n int) string {
	return strings.Repeat(ins+" ", n)
}

func begun(t *testing.T, m api.Module, in []int64, fuel, pages int) *Machine {
	t.Helper()
	x, fault := New(m, in, fuel, pages)
	if x == nil || fault != (api.Fault{}) {
		t.Fatalf("New(.., %v, %d, %d) = %v, %v, want a machine", in, fuel, pages, x, fault)
	}
	return x
}

// look is all that a machine tells.
type look struct {
	done        bool
	outcome     string
	pages, live int
}

func lookAt(m *Machine) look {
	return look{m.Done(), told(m.Outcome()), m.Pages(), m.Live()}
}

// told writes an outcome out; no list and an empty one are told alike.
func told(o api.Outcome) string { return fmt.Sprint(o) }

// followed runs step by step, and looks at what holds behind each step, and behind the last one.
func followed(t *testing.T, m api.Module, in []int64, fuel, pages int) (*Machine, api.Fault) {
	t.Helper()
	x := begun(t, m, in, fuel, pages)
	if got, want := lookAt(x), (look{false, told(api.Outcome{}), pages, 0}); got != want {
		t.Errorf("at the beginning: %v, want %v", got, want)
	}
	var fault api.Fault
	for n := 0; !x.Done() && fault.Code == 0; n++ {
		ahead, before := x.Outcome(), lookAt(x)
		if ahead.End != 0 || len(ahead.Back) > 0 || ahead.Fuel != n {
			t.Fatalf("behind %d steps: %v", n, ahead)
		}
		fault = x.Step()
		now := x.Outcome()
		if len(now.Out) < len(ahead.Out) || len(now.Out) > len(ahead.Out)+1 || !slices.Equal(ahead.Out, now.Out[:len(ahead.Out)]) {
			t.Fatalf("behind %d steps there went out %v, then %v", n, ahead.Out, now.Out)
		}
		// the step that ends a run, or is stuck, does nothing else
		if after := lookAt(x); (x.Done() || fault.Code != 0) && (after.pages != before.pages || after.live != before.live || len(now.Out) > len(ahead.Out)) {
			t.Errorf("the last step did something more: %v, then %v", before, after)
		}
	}
	if fault.Code != 0 && x.Done() {
		t.Errorf("stuck, and yet it has ended")
	}
	last := lookAt(x)
	for range 3 {
		if again := x.Step(); again != fault {
			t.Errorf("Step() = %v behind %v", again, fault)
		}
		if got := lookAt(x); got != last {
			t.Errorf("it goes on behind its end: %v, want %v", got, last)
		}
	}
	return x, fault
}

// wantRun looks that Run and the steps one by one come to that, and answers the machine.
func wantRun(t *testing.T, m api.Module, in []int64, fuel, pages int, want api.Outcome) *Machine {
	t.Helper()
	got, fault := Run(m, in, fuel, pages)
	if fault != (api.Fault{}) || told(got) != told(want) {
		t.Errorf("Run = %v, %v, want %v", got, fault, want)
	}
	x, fault := followed(t, m, in, fuel, pages)
	if o := x.Outcome(); fault != (api.Fault{}) || !x.Done() || told(o) != told(want) {
		t.Errorf("step by step: %v, %v, want %v", o, fault, want)
	}
	return x
}

// wantBack: it halts with such numbers.
func wantBack(t *testing.T, m api.Module, steps int, back ...int64) *Machine {
	t.Helper()
	return wantRun(t, m, nil, api.MaxFuel, api.MaxPages, api.Outcome{Back: back, Fuel: steps})
}

// wantEnd: it ends so behind so many steps, and nothing went out.
func wantEnd(t *testing.T, m api.Module, pages, end, steps int) *Machine {
	t.Helper()
	return wantRun(t, m, nil, api.MaxFuel, pages, api.Outcome{End: end, Fuel: steps})
}

// wantStuck: it is stuck at that place, in the step of that number, and nothing went out.
func wantStuck(t *testing.T, m api.Module, at, steps int) *Machine {
	t.Helper()
	want := api.Fault{Code: api.ErrStuck, At: at}
	if o, fault := Run(m, nil, api.MaxFuel, 3); fault != want || told(o) != told(api.Outcome{}) {
		t.Errorf("Run = %v, %v, want nothing, %v", o, fault, want)
	}
	x, fault := followed(t, m, nil, api.MaxFuel, 3)
	if fault != want {
		t.Errorf("step by step: %v, want %v", fault, want)
	}
	if o := x.Outcome(); told(o) != told(api.Outcome{Fuel: steps}) {
		t.Errorf("Outcome behind being stuck: %v, want %d steps alone", o, steps)
	}
	return x
}

func wantCounts(t *testing.T, x *Machine, pages, live int) {
	t.Helper()
	if x.Pages() != pages || x.Live() != live {
		t.Errorf("Pages() = %d, Live() = %d, want %d, %d", x.Pages(), x.Live(), pages, live)
	}
}

// P14.1: New

func wantNew(t *testing.T, what string, m api.Module, in []int64, fuel, pages int, want api.Fault) {
	t.Helper()
	x, fault := New(m, in, fuel, pages)
	if fault != want || (x == nil) != (want.Code != 0) {
		t.Errorf("%s: New = %v, %v, want %v", what, x, fault, want)
	}
	o, fault := Run(m, in, fuel, pages)
	if fault != want || want.Code != 0 && told(o) != told(api.Outcome{}) {
		t.Errorf("%s: Run = %v, %v, want %v", what, o, fault, want)
	}
}

// noModules are modules with each fault that code.Check tells, at each kind of place.
func noModules(t *testing.T) []api.Module {
	t.Helper()
	changed := func(change func(f *api.Func)) api.Module {
		m := moduleOf(t, "func 0 () -> (int) { block 0 () { num 5; jump 1 <> (0); } block 0 (int) { ret (0); } }")
		change(&m.Funcs[0])
		return m
	}
	ins := func(x api.Ins) api.Module {
		return changed(func(f *api.Func) { f.Blocks[1].Code = []api.Ins{x} })
	}
	end := func(e api.End) api.Module {
		return changed(func(f *api.Func) { f.Blocks[1].End = e })
	}
	return []api.Module{
		{},
		{Funcs: slices.Repeat(codeOf().Funcs, api.MaxFuncs+1)},
		changed(func(f *api.Func) { f.Regs = -1 }),
		changed(func(f *api.Func) { f.Regs = 1 }),
		changed(func(f *api.Func) { f.Params = []api.Type{{Kind: api.TInt}} }),
		changed(func(f *api.Func) { f.Results = []api.Type{{Kind: 9}} }),
		changed(func(f *api.Func) { f.Results = slices.Repeat(f.Results, 9) }),
		changed(func(f *api.Func) {
			for range api.MaxNested + 1 {
				f.Results = []api.Type{{Kind: api.TTuple, L: f.Results}}
			}
		}),
		changed(func(f *api.Func) { f.Blocks = nil }),
		changed(func(f *api.Func) { f.Blocks[1].Regs = api.MaxRegions + 1 }),
		changed(func(f *api.Func) { f.Blocks[1].Params = []api.Type{{Kind: api.TArray}} }),
		changed(func(f *api.Func) { f.Blocks[0].Regs = 1 }),
		changed(func(f *api.Func) { f.Blocks[1].Code = slices.Repeat(f.Blocks[0].Code, api.MaxCode+1) }),
		ins(api.Ins{}),
		ins(api.Ins{Op: api.INum, A: 1}),
		ins(api.Ins{Op: api.IBin, K: 10}),
		ins(api.Ins{Op: api.ICall, K: 1}),
		ins(api.Ins{Op: api.ITuple, Args: make([]int, api.MaxFields+1)}),
		end(api.End{}),
		end(api.End{Op: api.ERet, A: 1}),
		end(api.End{Op: api.EJump, Yes: api.To{Block: 2}}),
		end(api.End{Op: api.ERet, Args: make([]int, api.MaxParams+1)}),
	}
}

func TestNewTellsTheFaultsOfCode(t *testing.T) {
	tally := map[int]int{}
	for i, m := range noModules(t) {
		want := code.Check(m)
		if want.Code == 0 {
			t.Fatalf("%d is a module", i)
		}
		tally[want.Code]++
		wantNew(t, fmt.Sprint("the module ", i), m, nil, 100, 1, want)
		// ErrRange stands behind code's faults
		wantNew(t, fmt.Sprint("the module ", i, " and too much comes in"), m, make([]int64, api.MaxInput+1), 100, 1, want)
		wantNew(t, fmt.Sprint("the module ", i, " and the fuel"), m, nil, -1, 1, want)
		wantNew(t, fmt.Sprint("the module ", i, " and the pages"), m, nil, 100, api.MaxPages+1, want)
	}
	for _, kind := range []int{api.ErrRange, api.ErrMany, api.ErrKind, api.ErrForm, api.ErrType, api.ErrMain, api.ErrDeep} {
		if tally[kind] == 0 {
			t.Errorf("no module with the code %d", kind)
		}
	}
}

func TestNewOfAModuleThatMayNotBeRun(t *testing.T) {
	for _, body := range []string{
		"new; ret ();",
		"new; num 1; free 0; free 0; ret ();",
		"ret (7);",
		"out 99; ret ();",
		"jump 0 <3> ();",
		"call 0 <5> (6); ret ();",
	} {
		begun(t, block(t, 0, body), nil, 10, 1)
	}
}

func TestNewOfWhatComesIn(t *testing.T) {
	m := block(t, 0, "ret ();")
	for _, n := range []int{0, 1, api.MaxInput - 1, api.MaxInput} {
		wantNew(t, fmt.Sprint(n, " numbers"), m, make([]int64, n), 9, 1, api.Fault{})
	}
	for _, n := range []int{api.MaxInput + 1, api.MaxInput + 2, 100000} {
		wantNew(t, fmt.Sprint(n, " numbers"), m, make([]int64, n), 9, 1, api.Fault{Code: api.ErrRange, At: -1})
	}
	wantNew(t, "any numbers", m, []int64{math.MinInt64, math.MaxInt64, -1}, 9, 1, api.Fault{})
}

func TestNewOfFuelAndPages(t *testing.T) {
	m := block(t, 0, "ret ();")
	wild := []int{-1, -2, math.MinInt, math.MinInt + 1, math.MaxInt, 1 << 32, 1<<32 + 1, -1 << 32}
	outOfRange := api.Fault{Code: api.ErrRange, At: -1}
	for _, n := range []int{0, 1, api.MaxPages + 1, api.MaxFuel - 1, api.MaxFuel} {
		wantNew(t, fmt.Sprint("fuel ", n), m, nil, n, 1, api.Fault{})
	}
	for _, n := range append(wild, api.MaxFuel+1) {
		wantNew(t, fmt.Sprint("fuel ", n), m, nil, n, 1, outOfRange)
	}
	for _, n := range []int{0, 1, api.MaxPages - 1, api.MaxPages} {
		wantNew(t, fmt.Sprint("pages ", n), m, nil, 9, n, api.Fault{})
		wantCounts(t, begun(t, m, nil, 9, n), n, 0)
	}
	for _, n := range append(wild, api.MaxPages+1, api.MaxFuel) {
		wantNew(t, fmt.Sprint("pages ", n), m, nil, 9, n, outOfRange)
	}
	wantNew(t, "all of them", m, make([]int64, api.MaxInput+1), -1, -1, outOfRange)
}

func TestARunBeginsAtTheFunctionZero(t *testing.T) {
	m := moduleOf(t, header(1)+"block 0 () { num 4; ret (0); } block 0 () { num 5; ret (0); } } func 0 () -> (int) { block 0 () { num 6; ret (0); } }")
	wantBack(t, m, 2, 4)
}

// What holds everywhere

// spoil changes all that stands in a module's lists.
func spoil(m api.Module) {
	for f := range m.Funcs {
		for b := range m.Funcs[f].Blocks {
			block := &m.Funcs[f].Blocks[b]
			for i := range block.Code {
				x := &block.Code[i]
				for k := range x.Args {
					x.Args[k] = 77
				}
				for k := range x.Regs {
					x.Regs[k] = 77
				}
				*x = api.Ins{Op: 99}
			}
			for _, list := range [][]int{block.End.Args, block.End.Yes.Args, block.End.Yes.Regs, block.End.No.Args, block.End.No.Regs} {
				for k := range list {
					list[k] = 77
				}
			}
			*block = api.Block{}
		}
		for i := range m.Funcs[f].Results {
			m.Funcs[f].Results[i] = api.Type{}
		}
		m.Funcs[f] = api.Func{}
	}
}

// several has calls, an if, a jump, and numbers that come in and go out.
const several = `
func 0 () -> (int, int) {
	block 0 () { in; new; call 1 <0> (1, 0); in; out 3; jump 1 <0> (2, 1, 3); }
	block 1 (array 0, handle 0, int) { len 0; load 0 2; out 3; free 1; if 4 to 2 <> (3, 4) else 2 <> (4, 4); }
	block 0 (int, int) { ret (0, 1); }
}
func 1 (handle 0, int) -> (array 0) {
	block 1 (handle 0, int) { array 0 1; num 1; num 7; store 2 3 4; ret (2); }
}
`

func TestWhatIsHandedInIsNotChanged(t *testing.T) {
	m, in := moduleOf(t, several), []int64{4, 1}
	ahead := fmt.Sprintf("%#v", m)
	wantRun(t, m, in, 100, 3, api.Outcome{Back: []int64{4, 7}, Out: []int64{1, 4}, Fuel: 17})
	if now := fmt.Sprintf("%#v", m); now != ahead {
		t.Errorf("the module was changed: %s, want %s", now, ahead)
	}
	if !slices.Equal(in, []int64{4, 1}) {
		t.Errorf("what comes in was changed: %v", in)
	}
}

func TestWhatIsHandedInMayBeChangedBehindNew(t *testing.T) {
	for behind := range 17 {
		m, in := moduleOf(t, several), []int64{4, 1}
		x := begun(t, m, in, 100, 3)
		for range behind {
			x.Step()
		}
		spoil(m)
		in[0], in[1] = 9, 9
		for !x.Done() {
			if fault := x.Step(); fault.Code != 0 {
				t.Fatalf("stuck: %v", fault)
			}
		}
		if got, want := told(x.Outcome()), told(api.Outcome{Back: []int64{4, 7}, Out: []int64{1, 4}, Fuel: 17}); got != want {
			t.Errorf("changed behind %d steps: %s, want %s", behind, got, want)
		}
	}
}

func TestWhatLiesBehindAListsLengthIsNotRead(t *testing.T) {
	in := []int64{1, 2, 3}
	m := block(t, 1, "in; in; ret (1);")
	wantRun(t, m, in[:1], 9, 0, api.Outcome{End: api.EndInput, Fuel: 2})
	if !slices.Equal(in, []int64{1, 2, 3}) {
		t.Errorf("what comes in was changed: %v", in)
	}
	args := []int{0, 0}
	m.Funcs[0].Blocks[0].End.Args = args[:1]
	wantRun(t, m, in, 9, 0, api.Outcome{Back: []int64{1}, Fuel: 3})
}

func TestAnOutcomeMayBeChanged(t *testing.T) {
	x := begun(t, block(t, 2, "num 1; out 0; num 2; out 1; ret (0, 1);"), nil, 9, 0)
	for range 5 {
		x.Step()
		want := told(x.Outcome())
		o := x.Outcome()
		for i := range o.Out {
			o.Out[i] = 55
		}
		for i := range o.Back {
			o.Back[i] = 66
		}
		_ = append(o.Out, 57)
		_ = append(o.Back, 67)
		if got := told(x.Outcome()); got != want {
			t.Errorf("Outcome is %s, and was %s", got, want)
		}
	}
	if got, want := told(x.Outcome()), told(api.Outcome{Back: []int64{1, 2}, Out: []int64{1, 2}, Fuel: 5}); got != want {
		t.Errorf("Outcome is %s, want %s", got, want)
	}
}

func TestAnEarlierOutcomeStays(t *testing.T) {
	x := begun(t, block(t, 0, "num 1; out 0; num 2; out 1; num 3; out 2; ret ();"), nil, 9, 0)
	var list []api.Outcome
	var texts []string
	for range 7 {
		x.Step()
		list = append(list, x.Outcome())
		texts = append(texts, told(list[len(list)-1]))
	}
	for i, o := range list {
		if told(o) != texts[i] {
			t.Errorf("the outcome behind %d steps is %v, and was %s", i+1, o, texts[i])
		}
	}
}

func TestTwoMachinesKnowNothingOfEachOther(t *testing.T) {
	m := moduleOf(t, several)
	a, b := begun(t, m, []int64{4, 1}, 100, 3), begun(t, m, []int64{2, 0}, 9, 64)
	for range 5 {
		a.Step()
	}
	wantCounts(t, a, 2, 1)
	wantCounts(t, b, 64, 0)
	for range 20 {
		b.Step()
		a.Step()
	}
	if got, want := told(a.Outcome()), told(api.Outcome{Back: []int64{4, 7}, Out: []int64{1, 4}, Fuel: 17}); got != want {
		t.Errorf("the first: %s, want %s", got, want)
	}
	if got, want := told(b.Outcome()), told(api.Outcome{End: api.EndFuel, Fuel: 9}); got != want {
		t.Errorf("the second: %s, want %s", got, want)
	}
	wantCounts(t, a, 3, 0)
	wantCounts(t, b, 63, 1)
}

func TestARunIsToldAgain(t *testing.T) {
	m := moduleOf(t, several)
	for range 3 {
		wantRun(t, m, []int64{4, 1}, 100, 3, api.Outcome{Back: []int64{4, 7}, Out: []int64{1, 4}, Fuel: 17})
		wantRun(t, m, []int64{4, 3}, 100, 3, api.Outcome{Back: []int64{0, 0}, Out: []int64{3, 4}, Fuel: 17})
	}
}

func TestAnotherPanicIsNotHidden(t *testing.T) {
	x := begun(t, block(t, 0, "ret ();"), nil, 9, 0)
	defer func() {
		if up := recover(); up != "another" {
			t.Errorf("another panic: %v", up)
		}
		if x.Done() || x.stuck.Code != 0 {
			t.Errorf("another panic ended the run")
		}
	}()
	x.attempt(func() { panic("another") })
}
