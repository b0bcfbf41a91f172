package twin

import (
	"fmt"
	"testing"

	"copyhold/api"
)

// Regions and their pages: the one that sees gives no number twice, the other one gives each again as soon as it can.

// wantCountsAllAlong: behind each step there are so many free pages and so many regions.
func wantCountsAllAlong(t *testing.T, m api.Module, pages int, want ...[2]int) {
	t.Helper()
	x := begunBeside(t, m, nil, api.MaxFuel, pages)
	for i, n := range want {
		x.step(t)
		if wantCounts(t, x.Twin, n[0], n[1]); t.Failed() {
			t.Fatalf("behind %d steps", i+1)
		}
	}
	if !x.Done() {
		t.Errorf("behind %d steps it goes on", len(want))
	}
}

func TestARegionsNumberIsSoonAnotherOnes(t *testing.T) {
	m := block(t, 1, "new; num 3; tuple 0 (1); new; free 0; new; num 8; tuple 4 (5); get 6 0; tuple 3 (5, 7); get 8 1; free 3; free 4; ret (9);")
	wantBack(t, m, 14, 8)
	wantCountsAllAlong(t, m, 3, [2]int{3, 1}, [2]int{3, 1}, [2]int{2, 1}, [2]int{2, 2}, [2]int{3, 1}, [2]int{3, 2}, [2]int{3, 2}, [2]int{2, 2},
		[2]int{2, 2}, [2]int{1, 2}, [2]int{1, 2}, [2]int{2, 1}, [2]int{3, 0}, [2]int{3, 0})
}

func TestAFreedHandleIsStillAValue(t *testing.T) {
	// it is put away in a tuple, and handed on as one of a region that is there; its number is already another one's
	m := block(t, 1, "new; new; num 4; free 0; new; tuple 1 (0, 3, 2); tuple 3 (4); get 5 0; get 6 2; free 3; free 1; ret (7);")
	wantBack(t, m, 12, 4)
}

func TestPagesAreSoonAnotherRegions(t *testing.T) {
	m := block(t, 1, "new; num 15; num 2; array 0 1; store 3 2 1; tuple 0 (1, 1); free 0; new; array 5 1; load 6 2; tuple 5 (7, 6); free 5; ret (7);")
	wantRun(t, m, nil, 99, 2, api.Outcome{Back: []int64{0}, Fuel: 13})
	wantCountsAllAlong(t, m, 2, [2]int{2, 1}, [2]int{2, 1}, [2]int{2, 1}, [2]int{1, 1}, [2]int{1, 1}, [2]int{0, 1}, [2]int{2, 0}, [2]int{2, 1},
		[2]int{1, 1}, [2]int{1, 1}, [2]int{0, 1}, [2]int{2, 0}, [2]int{2, 0})
}

func TestEachRegionHasPagesOfItsOwn(t *testing.T) {
	m := block(t, 2, "new; new; num 3; tuple 0 (2); tuple 1 (3, 2); tuple 0 (4, 4); get 4 0; get 6 0; get 4 1; free 0; free 1; ret (7, 8);")
	wantBack(t, m, 12, 3, 3)
	wantCountsAllAlong(t, m, 2, [2]int{2, 1}, [2]int{2, 2}, [2]int{2, 2}, [2]int{1, 2}, [2]int{0, 2}, [2]int{0, 2}, [2]int{0, 2}, [2]int{0, 2}, [2]int{0, 2},
		[2]int{1, 1}, [2]int{2, 0}, [2]int{2, 0})
}

func TestALoopNeedsNoMoreThanItHoldsAtOnce(t *testing.T) {
	// the second example of the document: it is handed a region, makes another, frees the first and hands the second on
	m := moduleOf(t, header(0)+"block 0 () { new; jump 1 <0> (0); } block 1 (handle 0) { new; num 15; array 1 2; tuple 1 (0, 3); free 0; jump 1 <1> (1); } }")
	wantRun(t, m, nil, 3000, 4, api.Outcome{End: api.EndFuel, Fuel: 3000})
	wantRun(t, m, nil, api.MaxFuel, 3, api.Outcome{End: api.EndMemory, Fuel: 2 + 6 + 4})
	x := begun(t, m, nil, api.MaxFuel, 4)
	for !x.Done() {
		if goOn(t, x); x.Live() > 2 {
			t.Fatalf("Live() = %d, want two regions at most", x.Live())
		}
	}
	if got, want := told(x.Outcome()), told(api.Outcome{End: api.EndFuel, Fuel: api.MaxFuel}); got != want {
		t.Errorf("Outcome() = %s, want %s", got, want)
	}
}

func TestMoreRegionsThanThereAreNumbers(t *testing.T) {
	// one by one, each with a thing in it that its number and its page tell of; the last one's number came in
	m := moduleOf(t, header(1)+`block 0 () { in; new; tuple 1 (0); jump 1 <0> (0, 1, 2); }
		block 1 (int, handle 0, tuple 0 (int)) { get 2 0; free 1; if 3 to 2 <> (3) else 3 <> (0); }
		block 0 (int) { num 1; bin sub 0 1; new; tuple 3 (2); out 2; jump 1 <0> (0, 3, 4); }
		block 0 (int) { ret (0); } }`)
	const n = 100
	var out []int64
	for k := n - 1; k >= 0; k-- {
		out = append(out, int64(k))
	}
	x := wantRun(t, m, []int64{n}, 9999, 1, api.Outcome{Back: []int64{1}, Out: out, Fuel: 4 + 9*n + 3 + 1})
	wantCounts(t, x, 1, 0)
}

func TestThingsThatFillAPage(t *testing.T) {
	for n := range api.MaxArray + 1 {
		// an array and tuples of one word have as much room as a page has, or one word more than it has
		head := fmt.Sprintf("new; num %d; array 0 1; ", n)
		fill, rest := repeated("tuple 0 (1);", api.MaxArray-n), "free 0; ret ();"
		wantRun(t, block(t, 0, head+fill+rest), nil, 99, 1, api.Outcome{Fuel: 3 + api.MaxArray - n + 2})
		wantEnd(t, block(t, 0, head+fill+"tuple 0 (); "+rest), 1, api.EndMemory, 3+api.MaxArray-n+1)
	}
}

func TestHandlesThatLieInValues(t *testing.T) {
	// a tuple of handles goes through a call and a block; whoever has it frees by it
	m := moduleOf(t, header(1)+`block 0 () { new; new; new; free 0; num 6; tuple 2 (1, 3); call 1 <2, 1> (4); jump 1 <1, 2> (5, 2); }
		block 2 (tuple 1 (handle 0, int), handle 1) { get 0 0; get 0 1; tuple 2 (3); free 2; free 1; ret (3); } }
		func 2 (tuple 0 (handle 1, int)) -> (tuple 0 (handle 1, int)) { block 2 (tuple 0 (handle 1, int)) { get 0 0; tuple 1 (0, 1); get 2 0; num 7; set 3 1 4; ret (3); } }`)
	x := wantBack(t, m, 8+6+6, 7)
	wantCounts(t, x, api.MaxPages, 0)
	wantCounts(t, begunAndDone(t, m, 3, 8), 2, 2)
	wantCounts(t, begunAndDone(t, m, 3, 13), 1, 2)
}

func TestAHandleInAHandedOnTupleFreesItsRegion(t *testing.T) {
	// the handle itself stays behind; the block that is come to knows of it by the tuple alone
	text := `block 0 () { new; new; num 9; tuple 1 (0, 2); jump 1 <0, 1> (3, 1); }
		block 2 (tuple 1 (handle 0, int), handle 1) { get 0 0; get 0 1; array 2 3; free 2; len 4; free 1; ret (5); } }`
	if x, fault := New(moduleOf(t, header(1)+text), nil, 99, 9); x != nil || fault != (api.Fault{Code: api.ErrHeld, At: 104}) {
		t.Errorf("a look behind the free: New = %v, %v", x, fault)
	}
	m := moduleOf(t, header(1)+`block 0 () { new; new; num 9; tuple 1 (0, 2); jump 1 <0, 1> (3, 1); }
		block 2 (tuple 1 (handle 0, int), handle 1) { get 0 0; get 0 1; array 2 3; len 4; free 2; free 1; ret (5); } }`)
	wantCounts(t, wantBack(t, m, 5+7, 9), api.MaxPages, 0)
	wantCountsAllAlong(t, m, 2, [2]int{2, 1}, [2]int{2, 2}, [2]int{2, 2}, [2]int{1, 2}, [2]int{1, 2},
		[2]int{1, 2}, [2]int{1, 2}, [2]int{0, 2}, [2]int{0, 2}, [2]int{1, 1}, [2]int{2, 0}, [2]int{2, 0})
}
