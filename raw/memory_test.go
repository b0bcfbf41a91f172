package raw

import (
	"fmt"
	"slices"
	"testing"

	"copyhold/api"
)

// Plain words: handles, tuples and arrays, and the pages where they stand

// wantMemory: behind all instructions of the body, without its last two steps, which free a region and return, the words begin with these.
func wantMemory(t *testing.T, body string, free int, want ...int64) {
	t.Helper()
	m := block(t, 0, body)
	wantRun(t, m, nil, 99, 4, api.Outcome{Fuel: len(m.Funcs[0].Blocks[0].Code) + 1})
	x := begunAndDone(t, m, 4, len(m.Funcs[0].Blocks[0].Code)-1)
	if x.Free() != free {
		t.Errorf("%s: Free() = %d, want %d", body, x.Free(), free)
	}
	wantWords(t, x, want...)
}

// page is a page that begins with these words.
func page(list ...int64) []int64 {
	return append(list, make([]int64, api.PageWords-len(list))...)
}

func TestAHandleIsTheNumberOfItsRegion(t *testing.T) {
	var free string
	var want []int64
	for r := range api.MaxRegions {
		want = append(want, int64(r))
		if r > 0 {
			free = fmt.Sprintf("free %d; ", r) + free
		}
	}
	list := [2]string{"tuple 0 (0, 1, 2, 3, 4, 5, 6, 7); ", "tuple 0 (8, 9, 10, 11, 12, 13, 14, 15); "}
	m := block(t, 0, repeated("new;", api.MaxRegions)+list[0]+list[1]+free+"free 0; ret ();")
	x := begunAndDone(t, m, 1, api.MaxRegions+2)
	wantCounts(t, x, 0, api.MaxRegions)
	wantWords(t, x, want...)
}

func TestARegionsNumberIsSoonAnotherOnes(t *testing.T) {
	// the lowest one that none has
	m := block(t, 0, "new; new; new; free 1; free 0; new; new; new; tuple 2 (3, 4, 5, 2); free 3; free 4; free 5; free 2; ret ();")
	x := begunAndDone(t, m, 1, 9)
	wantCounts(t, x, 0, 4)
	wantWords(t, x, 0, 1, 3, 2)
	wantBack(t, m, 14)
	// a freed handle stays the number that it was
	m = block(t, 0, "new; new; free 0; new; tuple 1 (0, 2, 1); free 2; free 1; ret ();")
	wantWords(t, begunAndDone(t, m, 1, 5), 0, 0, 1)
}

func TestATupleIsThePlaceOfItsFields(t *testing.T) {
	// its place stands in another tuple
	wantMemory(t, "new; num 7; num -8; tuple 0 (1, 2, 1); tuple 0 (3, 3); tuple 0 (4, 3); free 0; ret ();", 3, 7, -8, 7, 0, 0, 3, 0)
	wantMemory(t, "new; num 5; tuple 0 (1); free 0; ret ();", 3, 5)
	wantMemory(t, "new; num 5; tuple 0 (1, 1, 1, 1, 1, 1, 1, 1); tuple 0 (2); free 0; ret ();", 3, 5, 5, 5, 5, 5, 5, 5, 5, 0)
}

func TestATupleWithoutFieldsTakesOneWord(t *testing.T) {
	wantMemory(t, "new; tuple 0 (); num 6; tuple 0 (2); tuple 0 (); tuple 0 (1, 3, 4); free 0; ret ();", 3, 0, 6, 0, 0, 1, 2)
	// sixteen fill a page
	wantMemory(t, "new; "+repeated("tuple 0 ();", 16)+"free 0; ret ();", 3)
	wantMemory(t, "new; num 9; "+repeated("tuple 0 ();", 15)+"tuple 0 (1); tuple 0 (17); free 0; ret ();", 2,
		0, 0, 0, 0, 0, 0, 0, 0, 0, 0, 0, 0, 0, 0, 0, 9, 15)
}

func TestWhatIsSetStandsInTheField(t *testing.T) {
	wantMemory(t, "new; num 1; num 2; tuple 0 (1, 1, 1); tuple 0 (1, 1); set 3 1 2; set 4 0 2; free 0; ret ();", 3, 1, 2, 1, 2, 1)
	// a handle, and a place
	wantMemory(t, "new; num 1; tuple 0 (1); tuple 0 (1); tuple 0 (2, 0); set 4 0 3; set 4 1 0; free 0; ret ();", 3, 1, 1, 1, 0)
}

func TestAnArrayIsThePlaceOfItsLength(t *testing.T) {
	wantMemory(t, "new; num 3; array 0 1; num 0; num 2; num -9; store 2 3 5; store 2 4 1; tuple 0 (2); array 0 3; tuple 0 (6, 7); free 0; ret ();", 3,
		3, -9, 0, 3, 0, 0, 4, 5)
	for n := int64(0); n <= api.MaxArray; n++ {
		wantMemory(t, fmt.Sprintf("new; num %d; array 0 1; free 0; ret ();", n), 3, n)
	}
}

func TestThingsThatFillAPage(t *testing.T) {
	for n := 1; n < api.MaxArray; n++ {
		// an array and a tuple of one word have as much room as a page has, or one word more than it has
		head := fmt.Sprintf("new; num %d; num 0; num 7; array 0 1; ", n)
		array := slices.Concat([]int64{int64(n)}, make([]int64, n))
		fill, rest := repeated("tuple 0 (3);", api.MaxArray-n), slices.Repeat([]int64{7}, api.MaxArray-n)
		wantMemory(t, head+fill+"free 0; ret ();", 3, slices.Concat(array, rest)...)
		wantMemory(t, head+fill+"tuple 0 (3); free 0; ret ();", 2, slices.Concat(array, rest, []int64{7})...)
		wantMemory(t, head+fill+"array 0 2; tuple 0 (3); free 0; ret ();", 2, slices.Concat(array, rest, []int64{0, 7})...)
	}
}

func TestRoomForJustOneMoreAndForNone(t *testing.T) {
	for size := 1; size <= api.MaxFields; size++ {
		args := "1"
		for range size - 1 {
			args += ", 1"
		}
		tuple, words := "tuple 0 ("+args+"); ", slices.Repeat([]int64{4}, size)
		for used := 1; used <= api.PageWords; used++ {
			head := fmt.Sprintf("new; num 4; num %d; array 0 2; ", used-1)
			array := page(int64(used - 1))
			if used+size <= api.PageWords {
				wantMemory(t, head+tuple+"free 0; ret ();", 3, slices.Concat(array[:used], words)...)
			} else {
				wantMemory(t, head+tuple+"free 0; ret ();", 2, slices.Concat(array, words)...)
			}
		}
	}
}

func TestWhatIsLeftOfAPageAheadStaysUnused(t *testing.T) {
	m := block(t, 0, "new; num 15; num 3; tuple 0 (2); array 0 1; tuple 0 (2); array 0 2; free 0; ret ();")
	x := begunAndDone(t, m, 4, 7)
	wantCounts(t, x, 1, 1)
	wantWords(t, x, slices.Concat(page(3), page(15), page(3, 3))...)
	wantBack(t, m, 9)
}

func TestEachRegionHasPagesOfItsOwn(t *testing.T) {
	m := block(t, 0, "new; new; num 3; tuple 0 (2); tuple 1 (3, 2); tuple 0 (4, 4); free 0; free 1; ret ();")
	x := begunAndDone(t, m, 3, 6)
	wantCounts(t, x, 1, 2)
	wantWords(t, x, slices.Concat(page(3, 16, 16), page(0, 3))...)
}

func TestPagesAreSoonAnotherRegions(t *testing.T) {
	m := block(t, 0, "new; num 15; num 2; array 0 1; tuple 0 (1); free 0; new; tuple 5 (2); array 5 1; free 5; ret ();")
	x := begun(t, m, nil, 99, 2)
	for i, want := range []struct {
		free, count int
		words       []int64
	}{
		{2, 1, nil}, {2, 1, nil}, {2, 1, nil},
		{1, 1, []int64{15}},
		{0, 1, append(page(15), 15)},
		// the words stay till their page is taken
		{2, 0, append(page(15), 15)},
		{2, 1, append(page(15), 15)},
		// the page that was given back last is taken first
		{1, 1, append(page(15), 2)},
		{0, 1, append(page(15), 2)},
		{2, 0, append(page(15), 2)},
		{2, 0, append(page(15), 2)},
	} {
		x.Step()
		wantCounts(t, x, want.free, want.count)
		wantWords(t, x, want.words...)
		if t.Failed() {
			t.Fatalf("behind %d steps", i+1)
		}
	}
	// a page that is taken once more is all noughts
	m = block(t, 0, "new; num 15; num 2; array 0 1; store 3 2 1; tuple 0 (1, 1); free 0; new; tuple 5 (2); tuple 5 (6, 5); free 5; ret ();")
	x = begunAndDone(t, m, 2, 10)
	wantWords(t, x, append(page(15, 0, 0, 15), 2, 16, 0)...)
}

func TestALoopNeedsNoMoreThanItHoldsAtOnce(t *testing.T) {
	text := header(0) + "block 0 () { new; jump 1 <0> (0); } block 1 (handle 0) { new; num 15; array 1 2; tuple 1 (0, 3); free 0; jump 1 <1> (1); } }"
	m := moduleOf(t, text)
	wantRun(t, m, nil, api.MaxFuel, 4, api.Outcome{End: api.EndFuel, Fuel: api.MaxFuel})
	x := begun(t, m, nil, api.MaxFuel, 4)
	for !x.Done() {
		if x.Step(); x.Count() > 2 {
			t.Fatalf("Count() = %d, want two regions at most", x.Count())
		}
	}
	wantRun(t, m, nil, api.MaxFuel, 3, api.Outcome{End: api.EndMemory, Fuel: 2 + 6 + 4})
}

func TestHandlesThatLieInValues(t *testing.T) {
	// a tuple of handles goes through a call and a block; whoever has it frees by it
	m := moduleOf(t, header(1)+`block 0 () { new; new; new; free 0; num 6; tuple 2 (1, 3); call 1 <2, 1> (4); jump 1 <1, 2> (5, 2); }
		block 2 (tuple 1 (handle 0, int), handle 1) { get 0 0; get 0 1; tuple 2 (3); free 2; free 1; ret (3); } }
		func 2 (tuple 0 (handle 1, int)) -> (tuple 0 (handle 1, int)) { block 2 (tuple 0 (handle 1, int)) { get 0 0; tuple 1 (0, 1); get 2 0; num 7; set 3 1 4; ret (3); } }`)
	x := wantBack(t, m, 8+6+6, 7)
	wantCounts(t, x, api.MaxPages, 0)
	x = begunAndDone(t, m, 3, 8)
	wantWords(t, x, 1, 6)
	x = begunAndDone(t, m, 3, 13)
	wantWords(t, x, slices.Concat(page(1, 7), page(0, 1))...)
	wantCounts(t, x, 1, 2)
}
