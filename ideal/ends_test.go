package ideal

import (
	"fmt"
	"math"
	"slices"
	"testing"

	"copyhold/api"
)

// P14.2: how a run ends

func TestEndDivide(t *testing.T) {
	for _, kind := range []string{"div", "mod"} {
		for _, n := range []int64{0, 1, -1, math.MinInt64} {
			wantEnd(t, block(t, 1, fmt.Sprintf("num %d; num 0; bin %s 0 1; ret (2);", n, kind)), 0, api.EndDivide, 3)
		}
	}
	for _, kind := range []string{"add", "sub", "mul", "less", "eq", "and", "xor"} {
		x := wantRun(t, block(t, 0, "num 0; num 0; bin "+kind+" 0 1; ret ();"), nil, 9, 0, api.Outcome{Fuel: 4})
		wantCounts(t, x, 0, 0)
	}
}

// farOut are numbers that lie beyond an array of so many.
func farOut(n int64) []int64 {
	return []int64{-1, n, n + 1, 99, -n - 1, 1 << 32, 1<<32 + 1, math.MaxInt64, math.MinInt64}
}

func TestEndIndex(t *testing.T) {
	for _, size := range []int64{0, 1, 3, 15} {
		for _, at := range farOut(size) {
			body := fmt.Sprintf("new; num %d; array 0 1; num %d; ", size, at)
			x := wantEnd(t, block(t, 1, body+"load 2 3; ret (4);"), 3, api.EndIndex, 5)
			wantCounts(t, x, 2, 1)
			wantEnd(t, block(t, 0, body+"store 2 3 3; ret ();"), 3, api.EndIndex, 5)
		}
	}
}

func TestAStoreBeyondAnArrayChangesNothing(t *testing.T) {
	m := block(t, 0, "new; num 2; array 0 1; num 0; store 2 1 1; ret ();")
	x := wantEnd(t, m, 1, api.EndIndex, 5)
	array := x.calls[0].values[2]
	for k := range int64(2) {
		if v, code := x.Get(array, k); v.N != 0 || code != 0 {
			t.Errorf("the part %d is %v, %d", k, v, code)
		}
	}
}

func TestEndLength(t *testing.T) {
	for _, n := range []int64{-1, -2, 16, 17, 99, 1 << 32, 1<<32 + 1, -1 << 32, math.MaxInt64, math.MinInt64} {
		x := wantEnd(t, block(t, 0, fmt.Sprintf("new; num %d; array 0 1; ret ();", n)), 3, api.EndLength, 3)
		wantCounts(t, x, 3, 1)
	}
}

func TestEndInput(t *testing.T) {
	m := block(t, 0, "in; in; ret ();")
	wantRun(t, m, nil, 9, 0, api.Outcome{End: api.EndInput, Fuel: 1})
	wantRun(t, m, []int64{}, 9, 0, api.Outcome{End: api.EndInput, Fuel: 1})
	wantRun(t, m, []int64{0}, 9, 0, api.Outcome{End: api.EndInput, Fuel: 2})
	wantRun(t, m, []int64{0, 0}, 9, 0, api.Outcome{Fuel: 3})
}

func TestEndDepth(t *testing.T) {
	m := block(t, 0, "call 0 <> (); ret ();")
	wantEnd(t, m, 0, api.EndDepth, api.MaxFrames)
}

func TestEndMemoryByNew(t *testing.T) {
	full := repeated("new;", api.MaxRegions)
	x := wantEnd(t, block(t, 0, full+"new; ret ();"), 9, api.EndMemory, api.MaxRegions+1)
	wantCounts(t, x, 9, api.MaxRegions)
	wantBack(t, block(t, 0, full+"ret ();"), api.MaxRegions+1)
	x = wantRun(t, block(t, 0, full+"free 3; new; free 9; free 16; new; new; ret ();"), nil, 99, 0, api.Outcome{Fuel: api.MaxRegions + 7})
	wantCounts(t, x, 0, api.MaxRegions)
}

func TestManyRegionsOneBehindTheOther(t *testing.T) {
	m := moduleOf(t, header(0)+"block 0 () { new; jump 1 <0> (0); } block 1 (handle 0) { new; tuple 1 (); free 0; jump 1 <1> (1); } }")
	x := wantRun(t, m, nil, api.MaxFuel, 2, api.Outcome{End: api.EndFuel, Fuel: api.MaxFuel})
	if x.Live() > 2 {
		t.Errorf("Live() = %d, want two at most", x.Live())
	}
}

func TestEndMemoryByThings(t *testing.T) {
	// an int, a tuple of one word, one of eight, and an array of sixteen words
	head := "new; num 15; "
	wantEnd(t, block(t, 0, head+"tuple 0 (); ret ();"), 0, api.EndMemory, 3)
	wantEnd(t, block(t, 0, head+"tuple 0 (1); ret ();"), 0, api.EndMemory, 3)
	wantEnd(t, block(t, 0, head+"array 0 1; ret ();"), 0, api.EndMemory, 3)
	wantEnd(t, block(t, 0, "new; num 0; array 0 1; ret ();"), 0, api.EndMemory, 3)
	wantCounts(t, wantEnd(t, block(t, 0, head+"array 0 1; tuple 0 (); ret ();"), 1, api.EndMemory, 4), 0, 1)
	wantCounts(t, wantEnd(t, block(t, 0, head+"tuple 0 (); array 0 1; ret ();"), 1, api.EndMemory, 4), 0, 1)
	wantCounts(t, wantEnd(t, block(t, 0, head+"array 0 1; array 0 1; array 0 1; ret ();"), 2, api.EndMemory, 5), 0, 1)
	eight := "tuple 0 (1, 1, 1, 1, 1, 1, 1, 1); "
	wantCounts(t, wantEnd(t, block(t, 0, head+repeated(eight, 3)+"ret ();"), 1, api.EndMemory, 5), 0, 1)
	wantCounts(t, wantEnd(t, block(t, 0, head+repeated("tuple 0 ();", 16)+"tuple 0 (); ret ();"), 1, api.EndMemory, 19), 0, 1)
	// what does not have room in the last page does not go to one ahead of it
	wantCounts(t, wantEnd(t, block(t, 0, head+"tuple 0 (); array 0 1; tuple 0 (); ret ();"), 2, api.EndMemory, 5), 0, 1)
}

func TestPagesAreLeftAgain(t *testing.T) {
	m := block(t, 0, "new; num 15; array 0 1; free 0; new; array 3 1; ret ();")
	x := begun(t, m, nil, 99, 1)
	for _, want := range [][2]int{{1, 1}, {1, 1}, {0, 1}, {1, 0}, {1, 1}, {0, 1}, {0, 1}} {
		if fault := x.Step(); fault.Code != 0 {
			t.Fatalf("Step() = %v", fault)
		}
		wantCounts(t, x, want[0], want[1])
	}
	// each region has pages of its own
	wantEnd(t, block(t, 0, "new; new; tuple 0 (); tuple 1 (); ret ();"), 1, api.EndMemory, 4)
}

func TestEndFuel(t *testing.T) {
	m := block(t, 1, "num 5; out 0; ret (0);")
	wantRun(t, m, nil, 0, 0, api.Outcome{End: api.EndFuel})
	wantRun(t, m, nil, 1, 0, api.Outcome{End: api.EndFuel, Fuel: 1})
	wantRun(t, m, nil, 2, 0, api.Outcome{End: api.EndFuel, Fuel: 2, Out: []int64{5}})
	wantRun(t, m, nil, 3, 0, api.Outcome{Back: []int64{5}, Fuel: 3, Out: []int64{5}})
	wantRun(t, m, nil, 4, 0, api.Outcome{Back: []int64{5}, Fuel: 3, Out: []int64{5}})
	for _, fuel := range []int{0, 1, 7, api.MaxFuel} {
		wantRun(t, block(t, 0, "jump 0 <> ();"), nil, fuel, 0, api.Outcome{End: api.EndFuel, Fuel: fuel})
	}
}

func TestEndFuelIsAStepOfItsOwn(t *testing.T) {
	x := begun(t, block(t, 0, "jump 0 <> ();"), nil, 2, 0)
	for i, want := range []look{
		{false, told(api.Outcome{Fuel: 1}), 0, 0},
		{false, told(api.Outcome{Fuel: 2}), 0, 0},
		{true, told(api.Outcome{End: api.EndFuel, Fuel: 2}), 0, 0},
		{true, told(api.Outcome{End: api.EndFuel, Fuel: 2}), 0, 0},
	} {
		if fault := x.Step(); fault.Code != 0 || lookAt(x) != want {
			t.Errorf("the step %d: %v, %v, want %v", i, fault, lookAt(x), want)
		}
	}
}

// writing lets as many numbers out as come in to it, forty a round.
func writing(t *testing.T, rounds int, more string) api.Module {
	t.Helper()
	return moduleOf(t, header(0)+fmt.Sprintf("block 0 () { num %d; jump 1 <> (0); }", rounds)+
		"block 0 (int) { "+repeated("out 0;", api.MaxCode)+"jump 2 <> (0); }"+
		"block 0 (int) { num 1; bin sub 0 1; if 2 to 1 <> (2) else 3 <> (); }"+
		"block 0 () { new; num 0; "+more+" ret (); } }")
}

func numbersOut(rounds int) []int64 {
	var list []int64
	for n := rounds; n > 0; n-- {
		list = append(list, slices.Repeat([]int64{int64(n)}, api.MaxCode)...)
	}
	return list
}

func TestEndOutput(t *testing.T) {
	rounds := api.MaxOutput / api.MaxCode
	steps := 2 + rounds*(api.MaxCode+4)
	all := numbersOut(rounds)
	if len(all) != api.MaxOutput {
		t.Fatalf("%d numbers are not as many as may go out", len(all))
	}
	wantRun(t, writing(t, rounds, ""), nil, api.MaxFuel, 0, api.Outcome{Out: all, Fuel: steps + 3})
	wantRun(t, writing(t, rounds, "out 1;"), nil, api.MaxFuel, 0, api.Outcome{End: api.EndOutput, Out: all, Fuel: steps + 3})
	wantRun(t, writing(t, rounds-1, "out 1;"), nil, api.MaxFuel, 0, api.Outcome{Out: append(numbersOut(rounds-1), 0), Fuel: steps - api.MaxCode})
	// the last round would be one too many
	wantRun(t, writing(t, rounds+1, ""), nil, api.MaxFuel, 0, api.Outcome{End: api.EndOutput, Out: numbersOut(rounds + 1)[:api.MaxOutput], Fuel: steps + 1})
	// what is no int is stuck, however much went out
	o, fault := Run(writing(t, rounds, "out 0;"), nil, api.MaxFuel, 0)
	if want := (api.Fault{Code: api.ErrStuck, At: 302}); fault != want || told(o) != told(api.Outcome{}) {
		t.Errorf("a handle goes out: %v, %v, want %v", o, fault, want)
	}
}

func TestWhatWentOutStays(t *testing.T) {
	for _, x := range []struct {
		body               string
		end, rounds, steps int
	}{
		{"ret (0);", api.EndHalt, 1, 4},
		{"num 0; bin div 0 1; ret (0);", api.EndDivide, 1, 5},
		{"new; array 1 0; load 2 0; ret (0);", api.EndIndex, 1, 6},
		{"new; num 16; array 1 2; ret (0);", api.EndLength, 1, 6},
		{"in; ret (0);", api.EndInput, 1, 4},
		{"call 0 <> (); ret (0);", api.EndDepth, api.MaxFrames, 4 * api.MaxFrames},
		{"new; array 1 0; array 1 0; ret (0);", api.EndMemory, 1, 6},
		{"jump 0 <> ();", api.EndFuel, 75, 300},
	} {
		want := api.Outcome{End: x.end, Out: slices.Repeat([]int64{9, 9}, x.rounds), Fuel: x.steps}
		if x.end == api.EndHalt {
			want.Back = []int64{9}
		}
		wantRun(t, block(t, 1, "num 9; out 0; out 0; "+x.body), nil, 300, 1, want)
	}
}

func TestEndHalt(t *testing.T) {
	wantBack(t, block(t, 0, "ret ();"), 1)
	wantBack(t, block(t, 8, "num 1; num 2; ret (0, 1, 0, 1, 0, 0, 1, 1);"), 3, 1, 2, 1, 2, 1, 1, 2, 2)
	// a region may be left
	wantCounts(t, wantBack(t, block(t, 0, "new; tuple 0 (); ret ();"), 3), api.MaxPages-1, 1)
}

// Which of two is told

func TestEndFuelIsLookedAtFirst(t *testing.T) {
	for _, x := range []struct {
		body string
		fuel int
	}{
		{"out 0; ret ();", 0},
		{"ret (5);", 0},
		{"in; ret ();", 0},
		{"new; tuple 0 (); ret ();", 1},
		{"num 0; bin div 0 0; ret ();", 1},
		{"new; free 0; free 0; ret ();", 2},
		{"ret ();", 0},
	} {
		wantRun(t, block(t, 0, x.body), nil, x.fuel, 0, api.Outcome{End: api.EndFuel, Fuel: x.fuel})
	}
}

func TestEndLengthIsLookedAtBeforeTheHandle(t *testing.T) {
	for _, length := range []string{"-1", "16", "9000000000"} {
		// an int, a handle whose region is gone, another int, an array, a tuple
		head := "num " + length + "; new; num 2; array 1 2; tuple 1 (); free 1; "
		for a := range 5 {
			m := block(t, 0, head+fmt.Sprintf("array %d 0; ret ();", a))
			wantEnd(t, m, 3, api.EndLength, 7)
		}
	}
}

func TestStuckArrayOfNoValueAheadOfEndLength(t *testing.T) {
	for _, n := range []int64{-1, 16, 100, math.MinInt64, math.MaxInt64} {
		for _, a := range []int{-1, 1, 2, 7, 99, math.MinInt, math.MaxInt} {
			m := block(t, 0, "num 0; array 0 0; ret ();")
			code := m.Funcs[0].Blocks[0].Code
			code[0].N, code[1].A = n, a
			wantStuck(t, m, 1, 2)
		}
	}
}

func TestEndLengthIsLookedAtBeforeEndMemory(t *testing.T) {
	wantEnd(t, block(t, 0, "new; num 16; array 0 1; ret ();"), 0, api.EndLength, 3)
	wantEnd(t, block(t, 0, "new; num -1; array 0 1; ret ();"), 0, api.EndLength, 3)
}

func TestStuckAheadOfAnEnd(t *testing.T) {
	for body, at := range map[string]int{
		// by 0
		"num 0; new; bin div 1 0; ret ();": 2,
		"num 0; bin div 1 0; ret ();":      1,
		"num 0; bin mod 9 0; ret ();":      1,
		// beyond an array that is gone, or by what is no int
		"new; num 1; array 0 1; free 0; load 2 1; ret ();":    4,
		"new; num 1; array 0 1; free 0; store 2 1 1; ret ();": 4,
		"new; num 1; array 0 1; store 2 1 0; ret ();":         3,
		"new; num 1; array 0 1; store 2 1 9; ret ();":         3,
		"new; num 1; tuple 0 (); load 2 1; ret ();":           3,
		"num 1; load 0 0; ret ();":                            1,
		// a length that is no int
		"new; array 0 0; ret ();": 1,
		"new; array 0 9; ret ();": 1,
	} {
		wantStuck(t, block(t, 0, body), at, at+1)
	}
}

func TestStuckAheadOfEndMemory(t *testing.T) {
	for body, at := range map[string]int{
		"new; free 0; tuple 0 (); ret ();":        2,
		"num 1; tuple 0 (); ret ();":              1,
		"new; tuple 0 (0, 1); ret ();":            1,
		"new; tuple 9 (0); ret ();":               1,
		"new; num 1; free 0; array 0 1; ret ();":  3,
		"num 1; array 0 0; ret ();":               1,
		"num 1; array 5 0; ret ();":               1,
		"new; num 1; array 0 0; ret ();":          2,
		repeated("new;", 16) + "free 16; ret ();": 16,
	} {
		if o, fault := Run(block(t, 0, body), nil, 99, 0); fault != (api.Fault{Code: api.ErrStuck, At: at}) {
			t.Errorf("%s: Run = %v, %v, want stuck at %d", body, o, fault, at)
		}
	}
}

func TestStuckAheadOfEndDepth(t *testing.T) {
	// the last call that may be open looks whether it is right once more
	text := header(0) + `block 0 () { new; num %d; call 1 <0> (1); ret (); } }
		func 1 (int) -> () { block 1 (int) { num 1; bin sub 0 1; if 2 to 1 <0> (2) else 2 <0> (2); }
			block 1 (int) { call 1 <0> (0); ret (); } block 1 (int) { %s; ret (); } }`
	for _, x := range []struct {
		call string
		at   int
	}{
		{"call 1 <0> (0, 0)", 10200}, {"call 1 <0> ()", 10200}, {"call 1 <> (0)", 10200}, {"call 1 <0, 0> (0)", 10200},
		{"call 1 <1> (0)", 10200}, {"call 1 <0> (1)", 10200},
	} {
		m := moduleOf(t, fmt.Sprintf(text, api.MaxFrames-1, x.call))
		if o, fault := Run(m, nil, 999, 0); fault != (api.Fault{Code: api.ErrStuck, At: x.at}) {
			t.Errorf("%s: Run = %v, %v, want stuck at %d", x.call, o, fault, x.at)
		}
	}
	wantEnd(t, moduleOf(t, fmt.Sprintf(text, api.MaxFrames-1, "call 1 <0> (0)")), 0, api.EndDepth, 3+(api.MaxFrames-2)*4+4)
}
