package twin

import (
	"fmt"
	"math"
	"slices"
	"testing"

	"copyhold/api"
)

// How a run ends

func TestEndDivide(t *testing.T) {
	for _, kind := range []string{"div", "mod"} {
		for _, n := range []int64{0, 1, -1, math.MinInt64} {
			wantEnd(t, block(t, 1, fmt.Sprintf("num %d; num 0; bin %s 0 1; ret (2);", n, kind)), 0, api.EndDivide, 3)
		}
	}
	for _, kind := range []string{"add", "sub", "mul", "less", "eq", "and", "xor"} {
		wantRun(t, block(t, 0, "num 0; num 0; bin "+kind+" 0 1; ret ();"), nil, 9, 0, api.Outcome{Fuel: 4})
	}
}

func TestEndIndex(t *testing.T) {
	for n := range int64(api.MaxArray + 1) {
		for _, at := range []int64{-1, n, n + 1, 99, -n - 1, 1 << 32, 1<<32 + 1, math.MaxInt64, math.MinInt64} {
			body := fmt.Sprintf("new; num %d; array 0 1; num %d; ", n, at)
			x := wantEnd(t, block(t, 1, body+"load 2 3; free 0; ret (4);"), 3, api.EndIndex, 5)
			wantCounts(t, x, 2, 1)
			x = wantEnd(t, block(t, 0, body+"store 2 3 3; free 0; ret ();"), 3, api.EndIndex, 5)
			wantCounts(t, x, 2, 1)
		}
	}
}

func TestEndIndexBesideAnotherThing(t *testing.T) {
	// what lies behind an array, or ahead of it, is none of its numbers
	body := "new; num 2; num 7; tuple 0 (2); array 0 1; tuple 0 (2); num %d; "
	for _, at := range []int{-1, -2, 2, 3} {
		wantEnd(t, block(t, 1, fmt.Sprintf(body+"load 4 6; free 0; ret (7);", at)), 1, api.EndIndex, 8)
		wantEnd(t, block(t, 0, fmt.Sprintf(body+"store 4 6 6; free 0; ret ();", at)), 1, api.EndIndex, 8)
	}
}

func TestEndLength(t *testing.T) {
	for _, n := range []int64{-1, -2, 16, 17, 99, 1 << 32, 1<<32 + 1, -1 << 32, math.MaxInt64, math.MinInt64} {
		x := wantEnd(t, block(t, 0, fmt.Sprintf("new; num %d; array 0 1; free 0; ret ();", n)), 3, api.EndLength, 3)
		wantCounts(t, x, 3, 1)
		wantEnd(t, block(t, 0, fmt.Sprintf("new; num %d; array 0 1; free 0; ret ();", n)), 0, api.EndLength, 3)
	}
}

func TestEndInput(t *testing.T) {
	m := block(t, 0, "in; in; ret ();")
	wantRun(t, m, nil, 9, 0, api.Outcome{End: api.EndInput, Fuel: 1})
	wantRun(t, m, []int64{}, 9, 0, api.Outcome{End: api.EndInput, Fuel: 1})
	wantRun(t, m, []int64{0}, 9, 0, api.Outcome{End: api.EndInput, Fuel: 2})
	wantRun(t, m, []int64{0, 0}, 9, 0, api.Outcome{Fuel: 3})
}

func TestEndDepth(t *testing.T) {
	wantEnd(t, block(t, 0, "call 0 <> (); ret ();"), 0, api.EndDepth, api.MaxFrames)
}

func TestEndMemoryByNew(t *testing.T) {
	free := ""
	for r := range api.MaxRegions {
		free += fmt.Sprintf("free %d; ", r)
	}
	// no block may name more, so that the last one is made by a function that is called
	text := header(0) + "block 0 () { %s call 1 <> (); " + free + "ret (); } } func 0 () -> () { block 0 () { %s ret (); } }"
	full := repeated("new;", api.MaxRegions)
	x := wantEnd(t, moduleOf(t, fmt.Sprintf(text, full, "new; free 0;")), 9, api.EndMemory, api.MaxRegions+2)
	wantCounts(t, x, 9, api.MaxRegions)
	wantBack(t, moduleOf(t, fmt.Sprintf(text, full, "")), 2*api.MaxRegions+3)
}

func TestAsManyRegionsAsThereMayBeAgainAndAgain(t *testing.T) {
	// two functions have all regions between them; the second one frees what it makes
	text := header(0) + "block 0 () { num 9; " + repeated("new;", 15) + "call 1 <> (0); call 1 <> (0); "
	for r := 1; r <= 15; r++ {
		text += fmt.Sprintf("free %d; ", r)
	}
	text += "ret (); } } func 0 (int) -> () { block 0 (int) { new; tuple 1 (0); free 1; new; free 3; %s ret (); } }"
	wantBack(t, moduleOf(t, fmt.Sprintf(text, "")), 1+15+2*7+15+1)
	x := wantEnd(t, moduleOf(t, fmt.Sprintf(text, "new; new; free 5; free 4;")), 3, api.EndMemory, 1+15+1+7)
	wantCounts(t, x, 2+1, api.MaxRegions)
}

func TestEndMemoryByThings(t *testing.T) {
	// an int, a tuple of one word, one of eight, and an array of sixteen words
	head, rest := "new; num 15; ", "free 0; ret ();"
	eight := "tuple 0 (1, 1, 1, 1, 1, 1, 1, 1); "
	for _, x := range []struct {
		body         string
		pages, steps int
	}{
		{"tuple 0 ();", 0, 3},
		{"tuple 0 (1);", 0, 3},
		{eight, 0, 3},
		{"array 0 1;", 0, 3},
		{"num 0; array 0 2;", 0, 4},
		{"array 0 1; tuple 0 ();", 1, 4},
		{"array 0 1; num 0; array 0 3;", 1, 5},
		{"tuple 0 (); array 0 1;", 1, 4},
		{"array 0 1; array 0 1; array 0 1;", 2, 5},
		{repeated(eight, 3), 1, 5},
		{repeated(eight, 5), 2, 7},
		{repeated("tuple 0 ();", 17), 1, 19},
		// what does not have room in the last page does not go to one ahead of it
		{"tuple 0 (); array 0 1; tuple 0 ();", 2, 5},
		// each region has pages of its own
		{"tuple 0 (); new; tuple 3 (); free 3;", 1, 5},
	} {
		m := block(t, 0, head+x.body+rest)
		got := wantEnd(t, m, x.pages, api.EndMemory, x.steps)
		if got.Pages() != 0 {
			t.Errorf("%s: %d pages are free", x.body, got.Pages())
		}
		// with one page more it has room
		wantRun(t, m, nil, 99, x.pages+1, api.Outcome{Fuel: len(m.Funcs[0].Blocks[0].Code) + 1})
	}
}

func TestBehindEndMemoryAllStays(t *testing.T) {
	m := block(t, 0, "new; num 3; tuple 0 (1, 1); array 0 1; num 10; array 0 4; free 0; ret ();")
	x := wantEnd(t, m, 1, api.EndMemory, 6)
	wantCounts(t, x, 0, 1)
}

func TestEndFuel(t *testing.T) {
	m := block(t, 1, "num 5; out 0; ret (0);")
	wantRun(t, m, nil, 0, 0, api.Outcome{End: api.EndFuel})
	wantRun(t, m, nil, 1, 0, api.Outcome{End: api.EndFuel, Fuel: 1})
	wantRun(t, m, nil, 2, 0, api.Outcome{End: api.EndFuel, Fuel: 2, Out: []int64{5}})
	wantRun(t, m, nil, 3, 0, api.Outcome{Back: []int64{5}, Fuel: 3, Out: []int64{5}})
	wantRun(t, m, nil, 4, 0, api.Outcome{Back: []int64{5}, Fuel: 3, Out: []int64{5}})
	for _, fuel := range []int{0, 1, 7, api.MaxFuel} {
		wantRun(t, block(t, 0, "jump 0 <> ();"), nil, fuel, 0, api.Outcome{End: api.EndFuel, Fuel: fuel})
	}
}

func TestEndFuelIsAStepOfItsOwn(t *testing.T) {
	x := begun(t, block(t, 0, "jump 0 <> ();"), nil, 2, 0)
	for i, want := range []look{
		{false, told(api.Outcome{Fuel: 1}), 0, 0},
		{false, told(api.Outcome{Fuel: 2}), 0, 0},
		{true, told(api.Outcome{End: api.EndFuel, Fuel: 2}), 0, 0},
		{true, told(api.Outcome{End: api.EndFuel, Fuel: 2}), 0, 0},
	} {
		if goOn(t, x); lookAt(x) != want {
			t.Errorf("the step %d: %v, want %v", i, lookAt(x), want)
		}
	}
}

func TestEndFuelIsLookedAtFirst(t *testing.T) {
	for _, x := range []struct {
		body        string
		pages, fuel int
	}{
		{"in; ret ();", 0, 0},
		{"ret ();", 0, 0},
		{"new; tuple 0 (); free 0; ret ();", 0, 1},
		{"num 0; bin div 0 0; ret ();", 0, 1},
		{"num -1; new; array 1 0; free 1; ret ();", 0, 2},
		{"num 0; new; array 1 0; load 2 0; free 1; ret ();", 1, 3},
	} {
		wantRun(t, block(t, 0, x.body), nil, x.fuel, x.pages, api.Outcome{End: api.EndFuel, Fuel: x.fuel})
	}
	wantRun(t, block(t, 0, "call 0 <> (); ret ();"), nil, api.MaxFrames-1, 0, api.Outcome{End: api.EndFuel, Fuel: api.MaxFrames - 1})
}

// writing lets the number of the round go out, forty times a round.
func writing(t *testing.T, rounds int, more string) api.Module {
	t.Helper()
	return moduleOf(t, header(0)+fmt.Sprintf("block 0 () { num %d; jump 1 <> (0); }", rounds)+
		"block 0 (int) { "+repeated("out 0;", api.MaxCode)+"jump 2 <> (0); }"+
		"block 0 (int) { num 1; bin sub 0 1; if 2 to 1 <> (2) else 3 <> (); }"+
		"block 0 () { num 0; "+more+" ret (); } }")
}

func numbersOut(rounds int) []int64 {
	var list []int64
	for n := rounds; n > 0; n-- {
		list = append(list, slices.Repeat([]int64{int64(n)}, api.MaxCode)...)
	}
	return list
}

func TestEndOutput(t *testing.T) {
	rounds := api.MaxOutput / api.MaxCode
	steps := 2 + rounds*(api.MaxCode+4)
	all := numbersOut(rounds)
	if len(all) != api.MaxOutput {
		t.Fatalf("%d numbers are not as many as may go out", len(all))
	}
	wantRun(t, writing(t, rounds, ""), nil, api.MaxFuel, 0, api.Outcome{Out: all, Fuel: steps + 2})
	wantRun(t, writing(t, rounds, "out 0;"), nil, api.MaxFuel, 0, api.Outcome{End: api.EndOutput, Out: all, Fuel: steps + 2})
	wantRun(t, writing(t, rounds-1, "out 0;"), nil, api.MaxFuel, 0, api.Outcome{Out: append(numbersOut(rounds-1), 0), Fuel: steps - api.MaxCode - 1})
	// the last round would be one too many
	wantRun(t, writing(t, rounds+1, ""), nil, api.MaxFuel, 0, api.Outcome{End: api.EndOutput, Out: numbersOut(rounds + 1)[:api.MaxOutput], Fuel: steps + 1})
	// and EndFuel comes ahead of it
	wantRun(t, writing(t, rounds, "out 0;"), nil, steps+1, 0, api.Outcome{End: api.EndFuel, Out: all, Fuel: steps + 1})
}

func TestWhatWentOutStaysAndNothingElseIsGivenBack(t *testing.T) {
	for _, x := range []struct {
		body               string
		end, rounds, steps int
	}{
		{"ret (0);", api.EndHalt, 1, 4},
		{"num 0; bin div 0 1; ret (0);", api.EndDivide, 1, 5},
		{"new; num 0; array 1 2; load 3 0; free 1; ret (0);", api.EndIndex, 1, 7},
		{"new; num 16; array 1 2; free 1; ret (0);", api.EndLength, 1, 6},
		{"in; ret (0);", api.EndInput, 1, 4},
		{"call 0 <> (); ret (0);", api.EndDepth, api.MaxFrames, 4 * api.MaxFrames},
		{"new; array 1 0; array 1 0; free 1; ret (0);", api.EndMemory, 1, 6},
		{"jump 0 <> ();", api.EndFuel, 75, 300},
	} {
		want := api.Outcome{End: x.end, Out: slices.Repeat([]int64{9, 9}, x.rounds), Fuel: x.steps}
		if x.end == api.EndHalt {
			want.Back = []int64{9}
		}
		wantRun(t, block(t, 1, "num 9; out 0; out 0; "+x.body), nil, 300, 1, want)
	}
}

func TestEndHalt(t *testing.T) {
	wantBack(t, block(t, 0, "ret ();"), 1)
	wantBack(t, block(t, 8, "num 1; num 2; ret (0, 1, 0, 1, 0, 0, 1, 1);"), 3, 1, 2, 1, 2, 1, 1, 2, 2)
	x := wantBack(t, block(t, 0, "new; num 5; tuple 0 (1); free 0; ret ();"), 5)
	wantCounts(t, x, api.MaxPages, 0)
}

func TestARunThatEndsAmongCallsKeepsWhatItHas(t *testing.T) {
	m := moduleOf(t, header(1)+`block 0 () { new; num 4; tuple 0 (1); call 1 <0> (2); free 0; ret (1); } }
		func 1 (tuple 0 (int)) -> () { block 1 (tuple 0 (int)) { new; num 7; tuple 1 (2); set 0 0 2; in; free 1; ret (); } }`)
	x := wantRun(t, m, nil, 99, 5, api.Outcome{End: api.EndInput, Fuel: 9})
	wantCounts(t, x, 3, 2)
	wantRun(t, m, []int64{0}, 99, 5, api.Outcome{Back: []int64{4}, Fuel: 13})
}
