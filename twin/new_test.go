package twin

import (
	"fmt"
	"math"
	"slices"
	"testing"

	"copyhold/api"
	"copyhold/code"
	"copyhold/raw"
	"copyhold/verify"
)

// New, and the fault of Run

// wantNew: that fault, which is that of raw.New, or none.
func wantNew(t *testing.T, what string, m api.Module, in []int64, fuel, pages int, want api.Fault) {
	t.Helper()
	if _, fault := raw.New(m, in, fuel, pages); fault != want {
		t.Errorf("%s: raw.New tells %v, want %v", what, fault, want)
	}
	x, fault := New(m, in, fuel, pages)
	if fault != want || (x == nil) != (want.Code != 0) {
		t.Errorf("%s: New = %v, %v, want %v", what, x, fault, want)
	}
	o, fault := Run(m, in, fuel, pages)
	if fault != want || want.Code != 0 && told(o) != told(api.Outcome{}) {
		t.Errorf("%s: Run = %v, %v, want %v", what, o, fault, want)
	}
}

// wantFaultFirst: the module's fault is told, whatever else is wrong.
func wantFaultFirst(t *testing.T, what string, m api.Module, want api.Fault) {
	t.Helper()
	if told := verify.Check(m); told != want || told.Code == 0 {
		t.Fatalf("%s: verify.Check = %v, want %v", what, told, want)
	}
	wantNew(t, what, m, nil, 100, 1, want)
	wantNew(t, what+", and too much comes in", m, make([]int64, api.MaxInput+1), 100, 1, want)
	wantNew(t, what+", and the fuel", m, nil, -1, 1, want)
	wantNew(t, what+", and the pages", m, nil, 100, api.MaxPages+1, want)
	wantNew(t, what+", and all of it", m, make([]int64, api.MaxInput+1), api.MaxFuel+1, -1, want)
}

// noModules are modules with each fault that code.Check tells, at each kind of place.
func noModules(t *testing.T) []api.Module {
	t.Helper()
	changed := func(change func(f *api.Func)) api.Module {
		m := moduleOf(t, header(1)+"block 0 () { num 5; jump 1 <> (0); } block 0 (int) { ret (0); } }")
		change(&m.Funcs[0])
		return m
	}
	ins := func(x api.Ins) api.Module {
		return changed(func(f *api.Func) { f.Blocks[1].Code = []api.Ins{x} })
	}
	end := func(e api.End) api.Module {
		return changed(func(f *api.Func) { f.Blocks[1].End = e })
	}
	return []api.Module{
		{},
		{Funcs: slices.Repeat(block(t, 0, "ret ();").Funcs, api.MaxFuncs+1)},
		changed(func(f *api.Func) { f.Regs = -1 }),
		changed(func(f *api.Func) { f.Regs = 1 }),
		changed(func(f *api.Func) { f.Params = []api.Type{{Kind: api.TInt}} }),
		changed(func(f *api.Func) { f.Results = []api.Type{{Kind: 9}} }),
		changed(func(f *api.Func) { f.Results = slices.Repeat(f.Results, 9) }),
		changed(func(f *api.Func) {
			for range api.MaxNested + 1 {
				f.Results = []api.Type{{Kind: api.TTuple, L: f.Results}}
			}
		}),
		changed(func(f *api.Func) { f.Blocks = nil }),
		changed(func(f *api.Func) { f.Blocks[1].Regs = api.MaxRegions + 1 }),
		changed(func(f *api.Func) { f.Blocks[1].Params = []api.Type{{Kind: api.TArray}} }),
		changed(func(f *api.Func) { f.Blocks[0].Regs = 1 }),
		changed(func(f *api.Func) { f.Blocks[1].Code = slices.Repeat(f.Blocks[0].Code, api.MaxCode+1) }),
		ins(api.Ins{}),
		ins(api.Ins{Op: api.INum, A: 1}),
		ins(api.Ins{Op: api.IBin, K: 10}),
		ins(api.Ins{Op: api.ICall, K: 1}),
		ins(api.Ins{Op: api.ITuple, Args: make([]int, api.MaxFields+1)}),
		end(api.End{}),
		end(api.End{Op: api.ERet, A: 1}),
		end(api.End{Op: api.EJump, Yes: api.To{Block: 2}}),
		end(api.End{Op: api.ERet, Args: make([]int, api.MaxParams+1)}),
	}
}

func TestNewTellsTheFaultsOfCode(t *testing.T) {
	tally := map[int]int{}
	for i, m := range noModules(t) {
		want := code.Check(m)
		tally[want.Code]++
		wantFaultFirst(t, fmt.Sprint("the module ", i), m, want)
	}
	for _, kind := range []int{api.ErrRange, api.ErrMany, api.ErrKind, api.ErrForm, api.ErrType, api.ErrMain, api.ErrDeep} {
		if tally[kind] == 0 {
			t.Errorf("no module with the code %d", kind)
		}
	}
	wantFaultFirst(t, "no module", api.Module{}, api.Fault{Code: api.ErrMany, At: -1})
}

func TestNewOfAModuleThatMayNotBeRun(t *testing.T) {
	for _, x := range []struct {
		body     string
		code, at int
	}{
		{"new; num 1; free 0; free 0; ret ();", api.ErrHeld, 3},
		{"new; num 1; tuple 0 (1); free 0; get 2 0; ret ();", api.ErrHeld, 4},
		{"new; num 1; array 0 1; free 0; len 2; ret ();", api.ErrHeld, 4},
		{"new; ret ();", api.ErrLeft, 91},
		{"new; jump 0 <0> ();", api.ErrMany, 91},
		{"new; jump 0 <> ();", api.ErrLeft, 91},
		{"out 99; ret ();", api.ErrRange, 0},
		{"bin add 0 0; ret ();", api.ErrRange, 0},
		{"new; bin add 0 0; free 0; ret ();", api.ErrType, 1},
		{"num 1; free 0; ret ();", api.ErrType, 1},
		{"new; tuple 0 (); get 1 0; free 0; ret ();", api.ErrType, 2},
		{"new; tuple 0 (); tuple 0 (1); tuple 0 (2); tuple 0 (3); tuple 0 (4); tuple 0 (5); free 0; ret ();", api.ErrDeep, 6},
		{"new; free 0; new; free 0; ret ();", api.ErrHeld, 3},
		{"num 7; ret (0);", api.ErrMany, 91},
		{"if 0 to 0 <> () else 0 <> ();", api.ErrRange, 91},
		{"call 0 <> (0); ret ();", api.ErrMany, 0},
	} {
		wantFaultFirst(t, x.body, block(t, 0, x.body), api.Fault{Code: x.code, At: x.at})
	}
}

func TestNewOfAnotherFunctionThatMayNotBeRun(t *testing.T) {
	text := header(0) + "block 0 () { ret (); } block 0 () { %s } } func 1 (handle 0) -> () { block 1 (handle 0) { %s } block 2 () { %s } }"
	right, fine, loop := "ret ();", "ret ();", "jump 1 <0, 1> ();"
	for _, x := range []struct {
		texts    [3]string
		code, at int
	}{
		{[3]string{"new; ret ();", "free 0; ret ();", loop}, api.ErrLeft, 191},
		{[3]string{right, "free 0; ret ();", "new; free 9; ret ();"}, api.ErrKept, 10000},
		{[3]string{right, "new; jump 1 <1, 0> ();", loop}, api.ErrKept, 10091},
		{[3]string{right, "new; jump 1 <0, 0> ();", loop}, api.ErrTwice, 10091},
		{[3]string{right, fine, "ret ();"}, api.ErrLeft, 10191},
		{[3]string{right, fine, "jump 1 <0, 2> ();"}, api.ErrHeld, 10191},
	} {
		m := moduleOf(t, fmt.Sprintf(text, x.texts[0], x.texts[1], x.texts[2]))
		wantFaultFirst(t, fmt.Sprint(x.texts), m, api.Fault{Code: x.code, At: x.at})
	}
	wantNew(t, "right", moduleOf(t, fmt.Sprintf(text, right, fine, loop)), nil, 9, 1, api.Fault{})
}

func TestNewOfWhatComesIn(t *testing.T) {
	m := block(t, 0, "ret ();")
	for _, n := range []int{0, 1, api.MaxInput - 1, api.MaxInput} {
		wantNew(t, fmt.Sprint(n, " numbers"), m, make([]int64, n), 9, 1, api.Fault{})
	}
	for _, n := range []int{api.MaxInput + 1, api.MaxInput + 2, 100000} {
		wantNew(t, fmt.Sprint(n, " numbers"), m, make([]int64, n), 9, 1, api.Fault{Code: api.ErrRange, At: -1})
	}
	wantNew(t, "any numbers", m, []int64{math.MinInt64, math.MaxInt64, -1}, 9, 1, api.Fault{})
}

func TestNewOfFuelAndPages(t *testing.T) {
	m := block(t, 0, "ret ();")
	wild := []int{-1, -2, math.MinInt, math.MinInt + 1, math.MaxInt, 1 << 32, 1<<32 + 1, -1 << 32}
	outOfRange := api.Fault{Code: api.ErrRange, At: -1}
	for _, n := range []int{0, 1, api.MaxPages + 1, api.MaxFuel - 1, api.MaxFuel} {
		wantNew(t, fmt.Sprint("fuel ", n), m, nil, n, 1, api.Fault{})
	}
	for _, n := range append(wild, api.MaxFuel+1) {
		wantNew(t, fmt.Sprint("fuel ", n), m, nil, n, 1, outOfRange)
	}
	for _, n := range []int{0, 1, api.MaxPages - 1, api.MaxPages} {
		wantNew(t, fmt.Sprint("pages ", n), m, nil, 9, n, api.Fault{})
		wantCounts(t, begun(t, m, nil, 9, n), n, 0)
	}
	for _, n := range append(wild, api.MaxPages+1, api.MaxFuel) {
		wantNew(t, fmt.Sprint("pages ", n), m, nil, 9, n, outOfRange)
	}
	wantNew(t, "all of them", m, make([]int64, api.MaxInput+1), -1, -1, outOfRange)
}

func TestNewDoesNoStep(t *testing.T) {
	x := begun(t, block(t, 0, "num 1; out 0; new; free 1; ret ();"), nil, 9, 7)
	if got, want := lookAt(x), (look{false, told(api.Outcome{}), 7, 0}); got != want {
		t.Errorf("at the beginning: %v, want %v", got, want)
	}
}

func TestARunBeginsAtTheFunctionZero(t *testing.T) {
	m := moduleOf(t, header(1)+"block 0 () { num 4; ret (0); } block 0 () { num 5; ret (0); } } func 0 () -> (int) { block 0 () { num 6; ret (0); } }")
	wantBack(t, m, 2, 4)
}
