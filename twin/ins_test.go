package twin

import (
	"fmt"
	"math"
	"slices"
	"testing"

	"copyhold/api"
	"copyhold/parse"
)

// What the instructions do

func TestNum(t *testing.T) {
	for _, n := range []int64{0, 1, -1, 77, math.MaxInt64, math.MinInt64} {
		wantBack(t, block(t, 1, fmt.Sprintf("num %d; ret (0);", n)), 2, n)
	}
	wantBack(t, block(t, 3, "num 5; num 6; num 7; ret (2, 0, 1);"), 4, 7, 5, 6)
}

func TestBinOfEachKind(t *testing.T) {
	const least, most = math.MinInt64, math.MaxInt64
	for _, x := range []struct {
		kind       int
		a, b, want int64
	}{
		{api.KAdd, 2, 3, 5}, {api.KAdd, most, 1, least},
		{api.KSub, 2, 3, -1}, {api.KSub, least, 1, most},
		{api.KMul, -4, 3, -12}, {api.KMul, most, 2, -2},
		{api.KDiv, -7, 2, -3}, {api.KDiv, least, -1, least}, {api.KDiv, 0, 5, 0},
		{api.KMod, -7, 2, -1}, {api.KMod, 7, -2, 1}, {api.KMod, least, -1, 0},
		{api.KLess, 1, 2, 1}, {api.KLess, 2, 1, 0}, {api.KLess, 2, 2, 0},
		{api.KEq, 2, 2, 1}, {api.KEq, 2, 1, 0},
		{api.KAnd, 12, 10, 8}, {api.KAnd, -1, 7, 7},
		{api.KXor, 12, 10, 6}, {api.KXor, -1, 0, -1},
	} {
		body := fmt.Sprintf("num %d; num %d; bin %s 0 1; ret (2);", x.a, x.b, parse.Kind(x.kind))
		wantBack(t, block(t, 1, body), 4, x.want)
	}
	wantBack(t, block(t, 1, "num 9; bin mul 0 0; bin sub 1 0; ret (2);"), 4, 72)
}

func TestNewAndFree(t *testing.T) {
	x := begun(t, block(t, 0, "new; new; free 0; new; free 2; free 1; ret ();"), nil, 9, 3)
	for _, count := range []int{1, 2, 1, 2, 1, 0, 0} {
		goOn(t, x)
		wantCounts(t, x, 3, count)
	}
	wantCounts(t, wantBack(t, block(t, 0, "new; new; free 1; free 0; ret ();"), 5), api.MaxPages, 0)
}

func TestTupleAndItsFields(t *testing.T) {
	wantBack(t, block(t, 3, "new; num 4; num 5; tuple 0 (1, 2, 1); get 3 0; get 3 1; get 3 2; free 0; ret (4, 5, 6);"), 9, 4, 5, 4)
	wantBack(t, block(t, 2, "new; num 4; num 5; tuple 0 (1, 1); set 3 1 2; get 3 0; get 3 1; free 0; ret (4, 5);"), 9, 4, 5)
	wantBack(t, block(t, 2, "new; num 4; num 5; tuple 0 (1, 1); set 3 0 2; get 3 0; get 3 1; free 0; ret (4, 5);"), 9, 5, 4)
	wantBack(t, block(t, 0, "new; tuple 0 (); free 0; ret ();"), 4)
	wantBack(t, block(t, 1, "new; num 8; tuple 0 (1); get 2 0; free 0; ret (3);"), 6, 8)
}

func TestTheLastFieldOfATuple(t *testing.T) {
	wantBack(t, block(t, 2, "new; num 1; num 2; tuple 0 (1, 1, 1, 1, 1, 1, 1, 1); set 3 7 2; get 3 7; get 3 6; free 0; ret (4, 5);"), 9, 2, 1)
	wantBack(t, block(t, 8, `new; num 1; num 2; num 3; num 4; num 5; num 6; num 7; num 8; tuple 0 (1, 2, 3, 4, 5, 6, 7, 8);
		get 9 0; get 9 1; get 9 2; get 9 3; get 9 4; get 9 5; get 9 6; get 9 7; free 0; ret (10, 11, 12, 13, 14, 15, 16, 17);`), 20, 1, 2, 3, 4, 5, 6, 7, 8)
}

func TestTwoTuplesAreNotTheSame(t *testing.T) {
	wantBack(t, block(t, 2, "new; num 1; num 2; tuple 0 (1); tuple 0 (1); set 3 0 2; get 3 0; get 4 0; free 0; ret (5, 6);"), 10, 2, 1)
}

func TestAThingMayBeReachedByTwoValues(t *testing.T) {
	wantBack(t, block(t, 1, "new; num 1; num 0; array 0 1; tuple 0 (3, 3); get 4 0; get 4 1; store 5 2 1; load 6 2; free 0; ret (7);"), 11, 1)
}

func TestATupleTakesValuesOfEachKind(t *testing.T) {
	// a handle that lies in a tuple frees its region, whoever else knows of it
	x := wantBack(t, block(t, 2, `new; new; num 3; array 1 2; tuple 0 (2, 1, 3); tuple 1 (4, 0);
		get 5 0; get 6 2; len 7; get 6 1; num 8; set 4 0 10; get 6 0; get 5 1; free 9; free 12; ret (8, 11);`), 17, 3, 8)
	wantCounts(t, x, api.MaxPages, 0)
}

func TestArrayAndItsNumbers(t *testing.T) {
	wantBack(t, block(t, 4, "new; num 3; array 0 1; num 0; num 2; num 9; store 2 4 5; load 2 3; load 2 4; len 2; store 2 3 8; load 2 3; free 0; ret (6, 7, 8, 9);"), 14, 0, 9, 3, 3)
	for n := range int64(api.MaxArray + 1) {
		wantBack(t, block(t, 1, fmt.Sprintf("new; num %d; array 0 1; len 2; free 0; ret (3);", n)), 6, n)
	}
}

func TestTheFirstAndTheLastPlaceOfAnArray(t *testing.T) {
	for n := 1; n <= api.MaxArray; n++ {
		for _, at := range []int{0, n - 1} {
			wantBack(t, block(t, 2, fmt.Sprintf("new; num %d; num %d; num 77; array 0 1; store 4 2 3; load 4 2; len 4; free 0; ret (5, 6);", n, at)), 10, 77, int64(n))
		}
	}
}

func TestAnArrayIsOfNoughts(t *testing.T) {
	for at := range api.MaxArray {
		wantBack(t, block(t, 1, fmt.Sprintf("new; num 15; array 0 1; num %d; load 2 3; free 0; ret (4);", at)), 7, 0)
	}
	// a page that was another region's does not show what stood there
	m := block(t, 1, "new; num 1; num 0; array 0 1; store 3 2 1; free 0; new; array 4 1; load 5 2; free 4; ret (6);")
	wantRun(t, m, nil, 99, 1, api.Outcome{Back: []int64{0}, Fuel: 11})
}

func TestIn(t *testing.T) {
	m := block(t, 3, "in; in; in; ret (2, 0, 1);")
	wantRun(t, m, []int64{5, -6, math.MinInt64}, 9, 0, api.Outcome{Back: []int64{math.MinInt64, 5, -6}, Fuel: 4})
	wantRun(t, m, []int64{1, 2, 3, 4, 5}, 9, 0, api.Outcome{Back: []int64{3, 1, 2}, Fuel: 4})
}

func TestInOfAsManyAsThereMayBe(t *testing.T) {
	m := moduleOf(t, header(1)+"block 0 () { num 0; jump 1 <> (0); } block 0 (int) { in; bin add 0 1; num 200; bin less 2 3; if 4 to 1 <> (2) else 2 <> (2); } block 0 (int) { ret (0); } }")
	ones := slices.Repeat([]int64{1}, api.MaxInput)
	wantRun(t, m, ones, 5000, 0, api.Outcome{Back: []int64{200}, Fuel: 2 + 5*200 + 1})
	wantRun(t, m, ones[1:], 5000, 0, api.Outcome{End: api.EndInput, Fuel: 2 + 5*199 + 1})
}

func TestOut(t *testing.T) {
	m := block(t, 0, "num 5; out 0; out 0; num -6; out 1; out 0; ret ();")
	wantRun(t, m, nil, 9, 0, api.Outcome{Out: []int64{5, 5, -6, 5}, Fuel: 7})
}

func TestWhatGoesOutIsToldStepByStep(t *testing.T) {
	x := begun(t, block(t, 0, "num 5; out 0; num 6; out 1; ret ();"), nil, 9, 0)
	for i, want := range [][]int64{nil, {5}, {5}, {5, 6}, {5, 6}} {
		goOn(t, x)
		if got := x.Outcome().Out; !slices.Equal(got, want) {
			t.Errorf("behind %d steps there went out %v, want %v", i+1, got, want)
		}
	}
}

// Ends of blocks

func TestJump(t *testing.T) {
	wantBack(t, moduleOf(t, header(1)+"block 0 () { num 1; num 2; jump 2 <> (1, 0); } block 0 () { num 9; ret (0); } block 0 (int, int) { bin sub 0 1; ret (2); } }"), 5, 1)
	wantBack(t, moduleOf(t, header(1)+"block 0 () { num 7; jump 2 <> (0, 0); } block 0 (int) { ret (0); } block 0 (int, int) { jump 1 <> (1); } }"), 4, 7)
}

func TestIf(t *testing.T) {
	m := moduleOf(t, header(1)+"block 0 () { in; num 10; num 20; if 0 to 1 <> (1, 0) else 2 <> (2); } block 0 (int, int) { ret (0); } block 0 (int) { ret (0); } }")
	for _, n := range []int64{1, -1, 2, math.MinInt64, math.MaxInt64, 1 << 32} {
		wantRun(t, m, []int64{n}, 9, 0, api.Outcome{Back: []int64{10}, Fuel: 5})
	}
	wantRun(t, m, []int64{0}, 9, 0, api.Outcome{Back: []int64{20}, Fuel: 5})
}

func TestIfLooksAtItsOwnValue(t *testing.T) {
	m := moduleOf(t, header(1)+"block 0 () { in; in; if 1 to 1 <> (0) else 0 <> (); } block 0 (int) { ret (0); } }")
	wantRun(t, m, []int64{7, 0, 0, 1}, 9, 0, api.Outcome{Back: []int64{0}, Fuel: 7})
}

func TestRegionsAreHandedOn(t *testing.T) {
	text := header(1) + `block 0 () { new; new; num 3; array 1 2; jump 1 <1, 0> (3, 0, 1); }
		block 2 (array 0, handle 1, handle 0) { free 1; len 0; new; jump 2 <0, 2> (3, 2, 0, 4); }
		block 2 (int, handle 0, array 0, handle 1) { len 2; free 1; free 3; ret (4); } }`
	x := wantBack(t, moduleOf(t, text), 13, 3)
	wantCounts(t, x, api.MaxPages, 0)
}

func TestAValueKeepsItsPlaceWhereRegionsChangeTheirNames(t *testing.T) {
	// two regions are handed on crosswise, round after round
	text := header(2) + `block 0 () { new; new; num 1; num 2; tuple 0 (2); tuple 1 (3); num 5; jump 1 <0, 1> (6, 0, 1, 4, 5); }
		block 2 (int, handle 0, handle 1, tuple 0 (int), tuple 1 (int)) { if 0 to 2 <0, 1> (0, 1, 2, 3, 4) else 3 <0, 1> (1, 2, 3, 4); }
		block 2 (int, handle 0, handle 1, tuple 0 (int), tuple 1 (int)) { num 1; bin sub 0 5; jump 1 <1, 0> (6, 2, 1, 4, 3); }
		block 2 (handle 0, handle 1, tuple 0 (int), tuple 1 (int)) { get 2 0; get 3 0; free 1; free 0; ret (4, 5); } }`
	wantBack(t, moduleOf(t, text), 8+5*4+1+5, 2, 1)
}
