package ideal

import (
	"fmt"
	"math"
	"testing"

	"copyhold/api"
)

// P14.2: what is stuck

func TestStuckOfTheExample(t *testing.T) {
	wantStuck(t, block(t, 0, "new; num 1; free 0; free 0; ret ();"), 3, 4)
}

// kinds makes a value of each kind in living regions and in those that are gone: two living regions, the third one is gone.
const kinds = "new; new; new; num 1; tuple 0 (3, 3); array 1 3; tuple 2 (3, 3); array 2 3; free 2; "

// The values that kinds makes, and the instruction behind them.
const (
	living      = 0 // a handle
	goneHandle  = 2
	anInt       = 3
	aTuple      = 4
	anArray     = 5
	goneTuple   = 6
	goneArray   = 7
	behindKinds = 9
)

func allButHandle() []int { return []int{goneHandle, anInt, aTuple, anArray, goneTuple, goneArray} }
func allButInt() []int    { return []int{living, goneHandle, aTuple, anArray, goneTuple, goneArray} }
func allButTuple() []int  { return []int{living, goneHandle, anInt, anArray, goneTuple, goneArray} }
func allButArray() []int  { return []int{living, goneHandle, anInt, aTuple, goneTuple, goneArray} }

// noValues are numbers of values that are not there, if there are those of kinds alone.
func noValues() []int {
	return []int{-1, -2, 8, 9, 80, 1 << 32, 1<<32 + 3, -1 << 32, math.MaxInt, math.MinInt}
}

// wantStuckIns: the instruction is stuck behind kinds, and does nothing.
func wantStuckIns(t *testing.T, x api.Ins) {
	t.Helper()
	m := block(t, 0, kinds+"ret ();")
	b := &m.Funcs[0].Blocks[0]
	b.Code = append(b.Code, x)
	got := wantStuck(t, m, behindKinds, behindKinds+1)
	wantCounts(t, got, 1, 2)
	if t.Failed() {
		t.Fatalf("so much for %+v", x)
	}
}

// wantDone: the instruction is done behind kinds, and there are so many values more.
func wantDone(t *testing.T, x api.Ins, more int) {
	t.Helper()
	m := block(t, 0, kinds+"ret ();")
	b := &m.Funcs[0].Blocks[0]
	b.Code = append(b.Code, x)
	got := wantRun(t, m, nil, 99, 9, api.Outcome{Fuel: behindKinds + 2, Out: got(x)})
	if n := len(got.calls[0].values); n != 8+more {
		t.Errorf("%+v: %d values, want %d more than 8", x, n, more)
	}
}

func got(x api.Ins) []int64 {
	if x.Op == api.IOut {
		return []int64{1}
	}
	return nil
}

func TestWhatIsDoneBehindKinds(t *testing.T) {
	wantDone(t, api.Ins{Op: api.INum}, 1)
	wantDone(t, api.Ins{Op: api.IBin, A: anInt, B: anInt, K: api.KAdd}, 1)
	wantDone(t, api.Ins{Op: api.IFree, A: living}, 0)
	wantDone(t, api.Ins{Op: api.ITuple, A: living, Args: []int{0, 1, 2, 3, 4, 5, 6, 7}}, 1)
	wantDone(t, api.Ins{Op: api.IGet, A: aTuple, K: 1}, 1)
	wantDone(t, api.Ins{Op: api.IArray, A: living, B: anInt}, 1)
	wantDone(t, api.Ins{Op: api.ILen, A: anArray}, 1)
	wantDone(t, api.Ins{Op: api.IOut, A: anInt}, 0)
	for v := range 8 {
		wantDone(t, api.Ins{Op: api.ISet, A: aTuple, K: 1, B: v}, 0)
	}
}

func TestStuckBin(t *testing.T) {
	for k := api.KAdd; k <= api.KXor; k++ {
		for _, v := range append(allButInt(), noValues()...) {
			wantStuckIns(t, api.Ins{Op: api.IBin, A: v, B: anInt, K: k})
			wantStuckIns(t, api.Ins{Op: api.IBin, A: anInt, B: v, K: k})
			wantStuckIns(t, api.Ins{Op: api.IBin, A: v, B: v, K: k})
		}
	}
}

func TestStuckFree(t *testing.T) {
	for _, v := range append(allButHandle(), noValues()...) {
		wantStuckIns(t, api.Ins{Op: api.IFree, A: v})
	}
}

func TestStuckTuple(t *testing.T) {
	for _, v := range append(allButHandle(), noValues()...) {
		wantStuckIns(t, api.Ins{Op: api.ITuple, A: v})
		wantStuckIns(t, api.Ins{Op: api.ITuple, A: v, Args: []int{anInt}})
	}
	for _, v := range noValues() {
		wantStuckIns(t, api.Ins{Op: api.ITuple, A: living, Args: []int{v}})
		wantStuckIns(t, api.Ins{Op: api.ITuple, A: living, Args: []int{anInt, v, anInt}})
		wantStuckIns(t, api.Ins{Op: api.ITuple, A: living, Args: []int{0, 1, 2, 3, 4, 5, 6, v}})
	}
}

func TestStuckGetAndSet(t *testing.T) {
	for _, v := range append(allButTuple(), noValues()...) {
		for k := range api.MaxFields {
			wantStuckIns(t, api.Ins{Op: api.IGet, A: v, K: k})
			wantStuckIns(t, api.Ins{Op: api.ISet, A: v, B: anInt, K: k})
		}
	}
	for k := 2; k < api.MaxFields; k++ {
		wantStuckIns(t, api.Ins{Op: api.IGet, A: aTuple, K: k})
		wantStuckIns(t, api.Ins{Op: api.ISet, A: aTuple, B: anInt, K: k})
	}
	for _, v := range noValues() {
		wantStuckIns(t, api.Ins{Op: api.ISet, A: aTuple, B: v})
	}
	wantStuck(t, block(t, 0, "new; tuple 0 (); get 1 0; ret ();"), 2, 3)
}

func TestStuckArray(t *testing.T) {
	for _, v := range append(allButHandle(), noValues()...) {
		wantStuckIns(t, api.Ins{Op: api.IArray, A: v, B: anInt})
	}
	for _, v := range append(allButInt(), noValues()...) {
		for _, a := range append(allButHandle(), noValues()...) {
			wantStuckIns(t, api.Ins{Op: api.IArray, A: a, B: v})
		}
		wantStuckIns(t, api.Ins{Op: api.IArray, A: living, B: v})
	}
}

func TestStuckLoadStoreAndLen(t *testing.T) {
	for _, v := range append(allButArray(), noValues()...) {
		wantStuckIns(t, api.Ins{Op: api.ILoad, A: v, B: anInt})
		wantStuckIns(t, api.Ins{Op: api.IStore, A: v, B: anInt, C: anInt})
		wantStuckIns(t, api.Ins{Op: api.ILen, A: v})
	}
	for _, v := range append(allButInt(), noValues()...) {
		wantStuckIns(t, api.Ins{Op: api.ILoad, A: anArray, B: v})
		wantStuckIns(t, api.Ins{Op: api.IStore, A: anArray, B: v, C: anInt})
		wantStuckIns(t, api.Ins{Op: api.IStore, A: anArray, B: anInt, C: v})
	}
}

func TestStuckStoreWithinAnArray(t *testing.T) {
	x := wantStuck(t, block(t, 0, "new; num 2; array 0 1; num 0; store 2 3 0; ret ();"), 4, 5)
	if v, code := x.Get(x.calls[0].values[2], 0); v.N != 0 || v.Kind != 1 || code != 0 {
		t.Errorf("the part is %v, %d", v, code)
	}
}

func TestStuckOut(t *testing.T) {
	for _, v := range append(allButInt(), noValues()...) {
		wantStuckIns(t, api.Ins{Op: api.IOut, A: v})
	}
}

// noRegions are numbers of regions that are not there, if there are three.
func noRegions() []int {
	return []int{-1, -2, 3, 4, 16, 1 << 32, -1 << 32, math.MaxInt, math.MinInt}
}

// calling is a function that calls another, which has two regions and three values, behind kinds.
func calling(t *testing.T, regs, args []int) api.Module {
	t.Helper()
	m := moduleOf(t, header(0)+"block 0 () { "+kinds+"ret (); } } func 2 (int, int, int) -> () { block 2 (int, int, int) { ret (); } }")
	b := &m.Funcs[0].Blocks[0]
	b.Code = append(b.Code, api.Ins{Op: api.ICall, K: 1, Regs: regs, Args: args})
	return m
}

func upTo(n int) []int {
	var list []int
	for i := range n {
		list = append(list, i)
	}
	return list
}

func TestStuckCall(t *testing.T) {
	wantRun(t, calling(t, []int{0, 2}, []int{7, 6, 5}), nil, 99, 3, api.Outcome{Fuel: behindKinds + 3})
	for n := range api.MaxRegs + 1 {
		if n != 2 {
			regs := make([]int, n)
			wantStuck(t, calling(t, regs, []int{0, 1, 2}), behindKinds, behindKinds+1)
		}
	}
	for n := range api.MaxParams + 1 {
		if n != 3 {
			wantStuck(t, calling(t, []int{0, 1}, upTo(n)), behindKinds, behindKinds+1)
		}
	}
	for _, r := range noRegions() {
		wantStuck(t, calling(t, []int{r, 0}, []int{0, 1, 2}), behindKinds, behindKinds+1)
		wantStuck(t, calling(t, []int{0, r}, []int{0, 1, 2}), behindKinds, behindKinds+1)
	}
	for _, v := range noValues() {
		for at := range 3 {
			args := []int{0, 1, 2}
			args[at] = v
			wantStuck(t, calling(t, []int{0, 1}, args), behindKinds, behindKinds+1)
		}
	}
}

// leading is a block of two regions and three values, to which an end behind kinds leads, and one without any.
func leading(t *testing.T, e api.End) api.Module {
	t.Helper()
	m := moduleOf(t, header(0)+"block 0 () { "+kinds+"ret (); } block 2 (int, int, int) { ret (); } block 0 () { ret (); } }")
	m.Funcs[0].Blocks[0].End = e
	return m
}

func TestStuckJumpAndIf(t *testing.T) {
	right := api.To{Block: 1, Regs: []int{2, 0}, Args: []int{6, 7, 3}}
	none := api.To{Block: 2}
	wrong := []api.To{
		{Block: 1}, {Block: 2, Regs: []int{0}}, {Block: 2, Args: []int{0}}, {Block: 2, Regs: []int{0, 1}, Args: []int{0, 1, 2}},
	}
	for _, n := range []int{0, 1, 3, api.MaxRegions} {
		wrong = append(wrong, api.To{Block: 1, Regs: make([]int, n), Args: right.Args})
	}
	for _, n := range []int{0, 1, 2, 4, api.MaxParams} {
		wrong = append(wrong, api.To{Block: 1, Regs: right.Regs, Args: make([]int, n)})
	}
	for _, r := range noRegions() {
		wrong = append(wrong, api.To{Block: 1, Regs: []int{r, 0}, Args: right.Args}, api.To{Block: 1, Regs: []int{0, r}, Args: right.Args})
	}
	for _, v := range noValues() {
		wrong = append(wrong, api.To{Block: 1, Regs: right.Regs, Args: []int{v, 0, 0}}, api.To{Block: 1, Regs: right.Regs, Args: []int{0, 0, v}})
	}
	for _, to := range wrong {
		wantStuck(t, leading(t, api.End{Op: api.EJump, Yes: to}), 91, behindKinds+1)
		wantStuck(t, leading(t, api.End{Op: api.EIf, A: anInt, Yes: to, No: right}), 91, behindKinds+1)
		wantStuck(t, leading(t, api.End{Op: api.EIf, A: anInt, Yes: to, No: to}), 91, behindKinds+1)
		// to where it does not go nobody looks
		wantRun(t, leading(t, api.End{Op: api.EIf, A: anInt, Yes: right, No: to}), nil, 99, 3, api.Outcome{Fuel: behindKinds + 2})
	}
	for _, to := range []api.To{right, none} {
		wantRun(t, leading(t, api.End{Op: api.EJump, Yes: to}), nil, 99, 3, api.Outcome{Fuel: behindKinds + 2})
		for _, v := range append(allButInt(), noValues()...) {
			wantStuck(t, leading(t, api.End{Op: api.EIf, A: v, Yes: to, No: to}), 91, behindKinds+1)
		}
	}
}

func TestStuckIfThatGoesToNo(t *testing.T) {
	text := header(0) + "block 0 () { num 0; if 0 to 1 <%s> () else 1 <%s> (); } block 1 () { ret (); } }"
	wantStuck(t, moduleOf(t, fmt.Sprintf(text, "", "0")), 91, 2)
	text = header(0) + "block 0 () { num 0; new; if 0 to 1 <%s> () else 1 <%s> (); } block 1 () { ret (); } }"
	wantRun(t, moduleOf(t, fmt.Sprintf(text, "9", "0")), nil, 9, 0, api.Outcome{Fuel: 4})
	wantStuck(t, moduleOf(t, fmt.Sprintf(text, "0", "1")), 91, 3)
}

func TestStuckRet(t *testing.T) {
	returning := func(results int, args []int) api.Module {
		m := block(t, results, kinds+"ret ();")
		m.Funcs[0].Blocks[0].End.Args = args
		return m
	}
	for results := range 4 {
		for n := range api.MaxParams + 1 {
			args := make([]int, n)
			for i := range args {
				args[i] = anInt
			}
			if n != results {
				wantStuck(t, returning(results, args), 91, behindKinds+1)
			}
		}
	}
	for _, v := range append(allButInt(), noValues()...) {
		wantStuck(t, returning(1, []int{v}), 91, behindKinds+1)
		wantStuck(t, returning(3, []int{v, anInt, anInt}), 91, behindKinds+1)
		wantStuck(t, returning(3, []int{anInt, anInt, v}), 91, behindKinds+1)
	}
}

func TestStuckRetOfAnotherCall(t *testing.T) {
	text := header(0) + "block 0 () { call 1 <> (); ret (); } } func 0 () -> (int, int) { block 0 () { num 1; new; jump 1 <> (0, 1); } block 0 (int, int) { ret (%s); } }"
	for _, args := range []string{"", "0", "0, 0, 0", "0, 2", "99, 0"} {
		wantStuck(t, moduleOf(t, fmt.Sprintf(text, args)), 10191, 5)
	}
	// what is no int may be given back, but not by the first one
	wantRun(t, moduleOf(t, fmt.Sprintf(text, "1, 1")), nil, 99, 0, api.Outcome{Fuel: 6})
}

func TestStuckIsToldWhereItIs(t *testing.T) {
	m := moduleOf(t, header(0)+`block 0 () { jump 1 <> (); } block 0 () { num 1; call 2 <> (); ret (); } }
		func 0 () -> () { block 0 () { ret (); } }
		func 0 () -> () { block 0 () { jump 3 <> (); } block 0 () { ret (); } block 0 () { ret (); } block 0 () { num 1; num 2; out 5; ret (); } }`)
	wantStuck(t, m, 20302, 7)
	m.Funcs[2].Blocks[3].Code[2].A = 0
	m.Funcs[2].Blocks[3].End.Args = []int{0}
	want := api.Fault{Code: api.ErrStuck, At: 20391}
	x, fault := followed(t, m, nil, 99, 0)
	if o := x.Outcome(); fault != want || told(o) != told(api.Outcome{Out: []int64{1}, Fuel: 8}) {
		t.Errorf("stuck behind what went out: %v, %v", o, fault)
	}
}

func TestStuckStaysWhereNoFuelIsLeft(t *testing.T) {
	x := begun(t, block(t, 0, "num 1; out 3; ret ();"), nil, 2, 0)
	x.Step()
	for range 5 {
		if fault := x.Step(); fault != (api.Fault{Code: api.ErrStuck, At: 1}) {
			t.Errorf("Step() = %v", fault)
		}
		if got, want := lookAt(x), (look{false, told(api.Outcome{Fuel: 2}), 0, 0}); got != want {
			t.Errorf("%v, want %v", got, want)
		}
	}
}
