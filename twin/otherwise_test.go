package twin

import (
	"slices"
	"testing"

	"copyhold/api"
	"copyhold/ideal"
	"copyhold/raw"
)

// What is never told: here a twin is put together of two machines that run something else, or of a module that New would not take.

// run is what a machine is begun with.
type run struct {
	m           api.Module
	in          []int64
	fuel, pages int
}

func together(t *testing.T, a, b run) *Twin {
	t.Helper()
	sees, fault := ideal.New(a.m, a.in, a.fuel, a.pages)
	if fault.Code != 0 {
		t.Fatalf("no machine that sees: %v", fault)
	}
	blind, fault := raw.New(b.m, b.in, b.fuel, b.pages)
	if fault.Code != 0 {
		t.Fatalf("no machine that sees nothing: %v", fault)
	}
	return &Twin{sees, blind}
}

// wantApart: both are alike behind each of so many steps, and come to something else by the next one; so does a run to the end.
func wantApart(t *testing.T, what string, a, b run, steps int) {
	t.Helper()
	want := api.Fault{Code: api.ErrStuck, At: -1}
	x := together(t, a, b)
	for n := range steps {
		if fault := x.Step(); fault != (api.Fault{}) {
			t.Fatalf("%s: Step() = %v behind %d steps", what, fault, n)
		}
	}
	if fault := x.Step(); fault != want {
		t.Errorf("%s: Step() = %v behind %d steps, want %v", what, fault, steps, want)
	}
	if o, fault := together(t, a, b).toTheEnd(); fault != want || told(o) != told(api.Outcome{}) {
		t.Errorf("%s: a run to the end = %v, %v, want %v", what, o, fault, want)
	}
}

// ofBlock is a run of a module of one block, with so many results.
func ofBlock(t *testing.T, results int, body string) run {
	t.Helper()
	return run{block(t, results, body), nil, 99, 3}
}

func wantBlocksApart(t *testing.T, results int, a, b string, steps int) {
	t.Helper()
	wantApart(t, a+" | "+b, ofBlock(t, results, a), ofBlock(t, results, b), steps)
	wantApart(t, b+" | "+a, ofBlock(t, results, b), ofBlock(t, results, a), steps)
}

func TestOtherNumbersGoOut(t *testing.T) {
	wantBlocksApart(t, 0, "num 1; out 0; ret ();", "num 2; out 0; ret ();", 1)
	wantBlocksApart(t, 0, "num 1; out 0; out 0; ret ();", "num 1; out 0; num 1; ret ();", 2)
	wantBlocksApart(t, 0, "num 1; num 2; out 0; out 1; ret ();", "num 1; num 2; out 0; out 0; ret ();", 3)
	wantBlocksApart(t, 0, "num 0; out 0; ret ();", "num 0; num 0; ret ();", 1)
	a := ofBlock(t, 0, "in; num 0; out 0; ret ();")
	b := a
	a.in, b.in = []int64{5}, []int64{6}
	wantApart(t, "something else comes in", a, b, 2)
}

func TestOtherNumbersAreGivenBack(t *testing.T) {
	wantBlocksApart(t, 1, "num 1; num 2; ret (0);", "num 1; num 2; ret (1);", 2)
	wantBlocksApart(t, 2, "num 1; num 2; ret (0, 1);", "num 1; num 2; ret (0, 0);", 2)
	wantApart(t, "one more", ofBlock(t, 2, "num 0; ret (0, 0);"), ofBlock(t, 1, "num 0; ret (0);"), 1)
	wantApart(t, "one less", ofBlock(t, 0, "num 0; ret ();"), ofBlock(t, 1, "num 0; ret (0);"), 1)
}

func TestOtherEnds(t *testing.T) {
	// the same step ends both, with the same pages, regions and steps
	text := func(last string) string { return "new; num -1; num 0; " + last + " free 0; ret ();" }
	ends := []string{text("in;"), text("array 0 1;"), text("bin div 1 2;")}
	for i, a := range ends {
		for k, b := range ends {
			if i != k {
				wantApart(t, a+" | "+b, ofBlock(t, 0, a), ofBlock(t, 0, b), 3)
			}
		}
	}
	wantBlocksApart(t, 0, "num 0; ret ();", "num 0; in; ret ();", 1)
}

func TestOtherNumbersOfSteps(t *testing.T) {
	// a loop looks the same behind each step, but for how many there were
	loop := ofBlock(t, 0, "jump 0 <> ();")
	x := together(t, loop, loop)
	x.blind.Step()
	if fault := x.Step(); fault != (api.Fault{Code: api.ErrStuck, At: -1}) {
		t.Errorf("the one that sees nothing is a step ahead: Step() = %v", fault)
	}
	x = together(t, loop, loop)
	x.Machine.Step()
	if o, fault := x.toTheEnd(); fault != (api.Fault{Code: api.ErrStuck, At: -1}) || told(o) != told(api.Outcome{}) {
		t.Errorf("the one that sees is a step ahead: %v, %v", o, fault)
	}
}

func TestDoneOfOneAlone(t *testing.T) {
	// EndHalt is 0, so that the outcome tells nothing of it
	wantBlocksApart(t, 0, "ret ();", "jump 0 <> ();", 0)
	wantBlocksApart(t, 0, "num 0; out 0; ret ();", "num 0; out 0; jump 0 <> ();", 2)
	long := ofBlock(t, 0, "jump 0 <> ();")
	short := long
	short.fuel = 5
	wantApart(t, "the one that sees has less fuel", short, long, 5)
	wantApart(t, "the one that sees nothing has less fuel", long, short, 5)
}

func TestOtherNumbersOfPages(t *testing.T) {
	more := ofBlock(t, 0, "jump 0 <> ();")
	less := more
	less.pages = 2
	wantApart(t, "the one that sees nothing has less pages", more, less, 0)
	wantApart(t, "the one that sees has less pages", less, more, 0)
	one, two := repeated("array 0 1;", 1), repeated("array 0 1;", 2)
	wantBlocksApart(t, 0, "new; num 15; "+two+"free 0; ret ();", "new; num 15; "+one+"num 7; free 0; ret ();", 3)
	wantBlocksApart(t, 0, "new; num 14; array 0 1; tuple 0 (1); free 0; ret ();", "new; num 15; array 0 1; tuple 0 (1); free 0; ret ();", 3)
}

func TestOtherNumbersOfRegions(t *testing.T) {
	wantBlocksApart(t, 0, "new; free 0; ret ();", "num 0; ret ();", 0)
	wantBlocksApart(t, 0, "new; new; free 0; free 1; ret ();", "new; new; free 0; num 0; free 1; ret ();", 3)
}

func TestWhatIsTheSameIsNotTold(t *testing.T) {
	// neither values nor words are looked at
	a, b := ofBlock(t, 1, "num 1; num 2; new; tuple 2 (0); free 2; ret (0);"), ofBlock(t, 1, "num 5; num 1; new; tuple 2 (0, 0); free 2; ret (1);")
	o, fault := together(t, a, b).toTheEnd()
	if want := (api.Outcome{Back: []int64{1}, Fuel: 6}); fault != (api.Fault{}) || told(o) != told(want) {
		t.Errorf("a run to the end: %v, %v, want %v", o, fault, want)
	}
}

// wantStuck: the one that sees, which runs the first module, is stuck there behind so many steps, whatever the other one does.
func wantStuck(t *testing.T, a, b run, steps, at int) {
	t.Helper()
	want := api.Fault{Code: api.ErrStuck, At: at}
	x := together(t, a, b)
	for n := range steps {
		if fault := x.Step(); fault != (api.Fault{}) {
			t.Fatalf("Step() = %v behind %d steps", fault, n)
		}
	}
	words, ahead := x.blind.Words(), told(x.blind.Outcome())
	for range 3 {
		if fault := x.Step(); fault != want || x.Done() {
			t.Errorf("Step() = %v behind %d steps, want %v", fault, steps, want)
		}
	}
	if o, fault := together(t, a, b).toTheEnd(); fault != want || told(o) != told(api.Outcome{}) {
		t.Errorf("a run to the end = %v, %v, want %v", o, fault, want)
	}
	if told(x.blind.Outcome()) != ahead || x.blind.Done() || !slices.Equal(x.blind.Words(), words) {
		t.Errorf("the one that sees nothing went on: %v", x.blind.Outcome())
	}
}

func TestTheOneThatSeesIsStuck(t *testing.T) {
	loop := ofBlock(t, 0, "jump 0 <> ();")
	wantStuck(t, ofBlock(t, 0, "jump 1 <> (); } block 0 () { out 7; ret ();"), loop, 1, 100)
	wantStuck(t, ofBlock(t, 0, "num 1; jump 1 <> (); } block 0 () { ret (7);"), loop, 2, 191)
	wantStuck(t, ofBlock(t, 0, "jump 0 <0> ();"), loop, 0, 91)
	wantStuck(t, ofBlock(t, 0, "num 1; free 0; ret ();"), loop, 1, 1)
	wantStuck(t, ofBlock(t, 0, "new; free 0; free 0; ret ();"), ofBlock(t, 0, "new; free 0; jump 1 <> (); } block 0 () { ret ();"), 2, 2)
	wantStuck(t, ofBlock(t, 0, "num 1; new; jump 1 <0> (0); } block 1 (handle 0) { tuple 0 (); free 0; ret ();"), ofBlock(t, 0, "num 1; new; num 5; free 1; ret ();"), 3, 100)
}

func TestStuckInAnotherFunction(t *testing.T) {
	text := "call 1 <> (); ret (); } } func 0 () -> () { block 0 () { call 2 <> (); ret (); } } func 0 () -> () { block 0 () { jump 3 <> (); } block 0 () { ret (); } block 0 () { ret (); } block 0 () { num 1; "
	loop := ofBlock(t, 0, "jump 0 <> ();")
	wantStuck(t, ofBlock(t, 0, text+"num 2; out 2; ret ();"), loop, 5, 20302)
	wantStuck(t, ofBlock(t, 0, text+"ret (0);"), loop, 4, 20391)
}

func TestStuckIsToldAheadOfWhatDiffers(t *testing.T) {
	// the other one would halt, or end otherwise, or has other pages
	stuck := ofBlock(t, 0, "num 1; out 3; ret ();")
	for _, body := range []string{"num 1; ret ();", "num 1; in; ret ();", "num 1; new; free 1; ret ();", "num 1; out 0; ret ();", "num 1; jump 0 <> ();"} {
		wantStuck(t, stuck, ofBlock(t, 0, body), 1, 1)
	}
	first, other := ofBlock(t, 0, "out 3; ret ();"), ofBlock(t, 0, "ret ();")
	other.pages = 1
	wantStuck(t, first, other, 0, 0)
}

func TestNoFaultOfItsOwnBehindTheEnd(t *testing.T) {
	x := begun(t, block(t, 0, "in; ret ();"), nil, 9, 1)
	goOn(t, x)
	wantNothingMore(t, x)
}
