package heap

import (
	"math"
	"slices"
	"testing"

	"copyhold/api"
)

// noLengths are no lengths of an array.
func noLengths() []int {
	return []int{-1, -2, -api.MaxArray, api.MaxArray + 1, api.MaxArray + 2, api.PageWords + 1, 1000, 1 << 32, -1 << 32, math.MinInt, math.MaxInt}
}

// P13.3

func TestThingsOfARegionAreNumberedAsTheyAreMade(t *testing.T) {
	h := withRegions(t, 9, 3)
	wantTuple(t, h, tuple(0, 0), num(1))
	wantArray(t, h, array(0, 1), 2)
	wantTuple(t, h, tuple(2, 0))
	wantTuple(t, h, tuple(0, 2), num(3), num(4))
	wantArray(t, h, array(2, 1), 0)
	wantArray(t, h, array(1, 0), 1)
	wantArray(t, h, array(0, 3), 0)
	wantParts(t, h, tuple(0, 0), num(1))
	wantParts(t, h, array(0, 1), noughts(2)...)
	wantParts(t, h, tuple(0, 2), num(3), num(4))
	wantParts(t, h, array(0, 3))
	wantParts(t, h, array(1, 0), noughts(1)...)
	wantParts(t, h, tuple(2, 0))
	wantParts(t, h, array(2, 1))
	wantCounts(t, h, 6, 3)
}

func TestATupleHasThePartsThatItIsMadeOf(t *testing.T) {
	for _, n := range []int{0, 1, 2, api.MaxFields, api.MaxFields + 1, api.PageWords - 1, api.PageWords, api.PageWords + 1, 5 * api.PageWords, 100000} {
		h := withRegions(t, 2, 1)
		wantTuple(t, h, tuple(0, 0), nums(n)...)
		wantParts(t, h, tuple(0, 0), nums(n)...)
		wantCounts(t, h, 1, 1)
	}
}

func TestATupleMayHaveWhateverValues(t *testing.T) {
	h := withRegions(t, 2, 2)
	wantArray(t, h, array(1, 0), 1)
	l := []Val{num(math.MinInt64), num(math.MaxInt64), handle(0), handle(1), tuple(0, 0), array(1, 0),
		handle(7), handle(-1), tuple(9, 9), array(-1, -1), {}, {Kind: 5}, {Kind: -1}, {Kind: math.MinInt}}
	wantTuple(t, h, tuple(0, 0), l...)
	wantParts(t, h, tuple(0, 0), l...)
	wantShut(t, h, true, handle(1))
	wantParts(t, h, tuple(0, 0), l...)
}

func TestAnArrayOfEachLengthIsNoughts(t *testing.T) {
	for n := range api.MaxArray + 1 {
		h := withRegions(t, 1, 1)
		wantArray(t, h, array(0, 0), n)
		wantParts(t, h, array(0, 0), noughts(n)...)
		wantCounts(t, h, 0, 1)
	}
}

func TestAnArrayIsNoughtsWhereOtherNumbersWere(t *testing.T) {
	h := withRegions(t, 1, 1)
	wantArray(t, h, array(0, 0), api.MaxArray)
	for k := range int64(api.MaxArray) {
		wantSet(t, h, array(0, 0), k, num(k+1), 0)
	}
	wantShut(t, h, true, handle(0))
	wantOpen(t, h, 1)
	wantArray(t, h, array(1, 0), api.MaxArray)
	wantParts(t, h, array(1, 0), noughts(api.MaxArray)...)
}

func TestArrayTellsErrRangeAheadOfAll(t *testing.T) {
	full, free := withRegions(t, 0, 1), withRegions(t, 1, 1)
	for _, n := range noLengths() {
		wantArrayCode(t, free, api.ErrRange, handle(0), n)
		wantArrayCode(t, full, api.ErrRange, handle(0), n)
		for _, v := range noHandles(1) {
			wantArrayCode(t, free, api.ErrRange, v, n)
			wantArrayCode(t, full, api.ErrRange, v, n)
		}
	}
	wantCounts(t, full, 0, 1)
	wantCounts(t, free, 1, 1)
	wantArray(t, free, array(0, 0), 1)
}

func TestTupleAndArrayTellErrStuckAheadOfErrFull(t *testing.T) {
	for pages := range 3 {
		h := withRegions(t, pages, 2)
		wantShut(t, h, true, handle(1))
		for _, v := range append(noHandles(2), handle(1)) {
			wantTupleCode(t, h, api.ErrStuck, v)
			wantTupleCode(t, h, api.ErrStuck, v, nums(2)...)
			wantTupleCode(t, h, api.ErrStuck, v, nums(api.PageWords+1)...)
			for _, n := range []int{0, 1, api.MaxArray} {
				wantArrayCode(t, h, api.ErrStuck, v, n)
			}
			wantCounts(t, h, pages, 1)
		}
	}
}

func TestTupleAtATupleOrAnArrayOfARegionThatIsThere(t *testing.T) {
	h := withRegions(t, 3, 1)
	wantTuple(t, h, tuple(0, 0), handle(0))
	wantArray(t, h, array(0, 1), 2)
	for _, v := range []Val{tuple(0, 0), array(0, 1), num(0)} {
		wantTupleCode(t, h, api.ErrStuck, v, num(1))
		wantArrayCode(t, h, api.ErrStuck, v, 1)
	}
	wantTuple(t, h, tuple(0, 2), num(1))
	wantCounts(t, h, 2, 1)
}

func TestErrFullWhereNoPageIsLeft(t *testing.T) {
	h := withRegions(t, 1, 2)
	wantTuple(t, h, tuple(0, 0), nums(api.PageWords)...)
	wantCounts(t, h, 0, 2)
	for r := range 2 {
		wantTupleCode(t, h, api.ErrFull, handle(r))
		wantTupleCode(t, h, api.ErrFull, handle(r), nums(1)...)
		wantTupleCode(t, h, api.ErrFull, handle(r), nums(api.PageWords+1)...)
		wantArrayCode(t, h, api.ErrFull, handle(r), 0)
		wantArrayCode(t, h, api.ErrFull, handle(r), api.MaxArray)
	}
	wantStuck(t, h, tuple(0, 1), array(0, 1), tuple(1, 0), array(1, 0))
	wantParts(t, h, tuple(0, 0), nums(api.PageWords)...)
	wantCounts(t, h, 0, 2)
}

// Behind each code a region has as many words in use as ahead, and its next thing has the next number.
func TestWithACodeNothingChanges(t *testing.T) {
	h := withRegions(t, 1, 1)
	wantTuple(t, h, tuple(0, 0), nums(10)...)
	spoil := func() {
		wantTupleCode(t, h, api.ErrFull, handle(0), nums(7)...)
		wantArrayCode(t, h, api.ErrFull, handle(0), 6)
		wantTupleCode(t, h, api.ErrStuck, tuple(0, 0), num(1))
		wantTupleCode(t, h, api.ErrStuck, handle(1), num(1))
		wantArrayCode(t, h, api.ErrStuck, num(0), 1)
		wantArrayCode(t, h, api.ErrRange, handle(0), api.MaxArray+1)
		wantArrayCode(t, h, api.ErrRange, handle(0), -1)
	}
	spoil()
	wantArray(t, h, array(0, 1), 2)
	spoil()
	wantTuple(t, h, tuple(0, 2), nums(3)...)
	spoil()
	wantTupleCode(t, h, api.ErrFull, handle(0))
	wantParts(t, h, tuple(0, 0), nums(10)...)
	wantParts(t, h, array(0, 1), noughts(2)...)
	wantParts(t, h, tuple(0, 2), nums(3)...)
	wantCounts(t, h, 0, 1)
}

func TestErrFullIsOverBehindAShut(t *testing.T) {
	h := withRegions(t, 2, 3)
	wantTuple(t, h, tuple(0, 0), nums(api.PageWords)...)
	wantTuple(t, h, tuple(1, 0), nums(api.PageWords)...)
	wantTupleCode(t, h, api.ErrFull, handle(2), num(1))
	wantShut(t, h, true, handle(2))
	wantTupleCode(t, h, api.ErrFull, handle(0), num(1))
	wantShut(t, h, true, handle(1))
	wantCounts(t, h, 1, 1)
	wantTuple(t, h, tuple(0, 1), num(1))
	wantCounts(t, h, 0, 1)
	wantShut(t, h, true, handle(0))
	wantCounts(t, h, 2, 0)
}

// ROOM

func TestRoomOfATuple(t *testing.T) {
	for n := range api.PageWords {
		h := withRegions(t, 3, 1)
		first := max(n, 1)
		wantTuple(t, h, tuple(0, 0), nums(n)...)
		wantCounts(t, h, 2, 1)
		wantTuple(t, h, tuple(0, 1), nums(api.PageWords-first)...)
		wantCounts(t, h, 2, 1)
		wantTuple(t, h, tuple(0, 2))
		wantCounts(t, h, 1, 1)

		h = withRegions(t, 3, 1)
		wantTuple(t, h, tuple(0, 0), nums(n)...)
		wantTuple(t, h, tuple(0, 1), nums(api.PageWords-first+1)...)
		wantCounts(t, h, 1, 1)
	}
}

func TestRoomOfAnArray(t *testing.T) {
	for n := range api.MaxArray {
		rest := api.PageWords - (n + 1)
		h := withRegions(t, 3, 1)
		wantArray(t, h, array(0, 0), n)
		wantCounts(t, h, 2, 1)
		wantArray(t, h, array(0, 1), rest-1)
		wantCounts(t, h, 2, 1)
		wantTuple(t, h, tuple(0, 2))
		wantCounts(t, h, 1, 1)

		h = withRegions(t, 3, 1)
		wantArray(t, h, array(0, 0), n)
		wantArray(t, h, array(0, 1), rest)
		wantCounts(t, h, 1, 1)
	}
	h := withRegions(t, 3, 1)
	wantArray(t, h, array(0, 0), api.MaxArray)
	wantCounts(t, h, 2, 1)
	wantArray(t, h, array(0, 1), 0)
	wantCounts(t, h, 1, 1)
}

func TestATupleOfNoPartsTakesOneWord(t *testing.T) {
	h := withRegions(t, 2, 1)
	for i := range api.PageWords {
		wantTuple(t, h, tuple(0, i))
		wantCounts(t, h, 1, 1)
	}
	wantTuple(t, h, tuple(0, api.PageWords))
	wantCounts(t, h, 0, 1)
}

func TestAnArrayOfNoNumbersTakesOneWord(t *testing.T) {
	h := withRegions(t, 1, 1)
	for i := range api.PageWords {
		wantArray(t, h, array(0, i), 0)
		wantCounts(t, h, 0, 1)
	}
	wantArrayCode(t, h, api.ErrFull, handle(0), 0)
}

func TestWhatIsLeftOfAPageAheadStaysUnused(t *testing.T) {
	h := withRegions(t, 3, 1)
	wantTuple(t, h, tuple(0, 0), nums(2)...)
	wantTuple(t, h, tuple(0, 1), nums(15)...)
	wantCounts(t, h, 1, 1)
	wantTuple(t, h, tuple(0, 2), nums(1)...)
	wantCounts(t, h, 1, 1)
	wantTuple(t, h, tuple(0, 3), nums(1)...)
	wantCounts(t, h, 0, 1)
	wantTuple(t, h, tuple(0, 4), nums(15)...)
	wantTupleCode(t, h, api.ErrFull, handle(0), nums(1)...)
}

func TestATupleOfMoreThanAPageTakesOnePage(t *testing.T) {
	for _, n := range []int{api.PageWords + 1, 2 * api.PageWords, 2*api.PageWords + 3, 1000} {
		h := withRegions(t, 3, 1)
		wantTuple(t, h, tuple(0, 0), nums(n)...)
		wantCounts(t, h, 2, 1)
		// More words are in use than the page has, so that nothing has room behind it.
		wantTuple(t, h, tuple(0, 1))
		wantCounts(t, h, 1, 1)
		wantTuple(t, h, tuple(0, 2), nums(n)...)
		wantCounts(t, h, 0, 1)
		wantTupleCode(t, h, api.ErrFull, handle(0), nums(n)...)
		wantTupleCode(t, h, api.ErrFull, handle(0))
		wantParts(t, h, tuple(0, 0), nums(n)...)
		wantParts(t, h, tuple(0, 2), nums(n)...)
		wantShut(t, h, true, handle(0))
		wantCounts(t, h, 3, 0)
	}
}

func TestEachRegionHasPagesOfItsOwn(t *testing.T) {
	h := withRegions(t, 3, 3)
	for r := range 3 {
		wantTuple(t, h, tuple(r, 0))
		wantCounts(t, h, 2-r, 3)
	}
	for i := 1; i < api.PageWords; i++ {
		for r := range 3 {
			wantTuple(t, h, tuple(r, i))
		}
	}
	wantCounts(t, h, 0, 3)
	for r := range 3 {
		wantTupleCode(t, h, api.ErrFull, handle(r))
	}
}

func TestPagesAreTakenOneByOneToTheLast(t *testing.T) {
	h := withRegions(t, api.MaxPages, 2)
	for i := range api.MaxPages {
		wantArray(t, h, array(i%2, i/2), api.MaxArray)
		wantCounts(t, h, api.MaxPages-i-1, 2)
	}
	wantArrayCode(t, h, api.ErrFull, handle(0), 0)
	wantArrayCode(t, h, api.ErrFull, handle(1), 0)
	wantShut(t, h, true, handle(0))
	wantCounts(t, h, api.MaxPages/2, 1)
	for i := range api.MaxPages / 2 {
		wantArray(t, h, array(1, api.MaxPages/2+i), api.MaxArray)
		wantCounts(t, h, api.MaxPages/2-i-1, 1)
	}
	wantArrayCode(t, h, api.ErrFull, handle(1), 0)
	wantShut(t, h, true, handle(1))
	wantCounts(t, h, api.MaxPages, 0)
}

// What is handed in

func TestTheListHandedToTupleMayBeChangedBehindTheCall(t *testing.T) {
	h := withRegions(t, 2, 1)
	l := []Val{num(1), handle(0), num(3)}
	wantTuple(t, h, tuple(0, 0), l...)
	wantTuple(t, h, tuple(0, 1), l[:2]...)
	l[0], l[1], l[2] = num(7), num(8), num(9)
	wantParts(t, h, tuple(0, 0), num(1), handle(0), num(3))
	wantParts(t, h, tuple(0, 1), num(1), handle(0))
}

func TestTheListHandedToTupleStaysAsItWas(t *testing.T) {
	h := withRegions(t, 1, 1)
	l := []Val{num(1), {VInt, 2, 3, 4}, {VHandle, 0, 5, 6}, {VTuple, 0, 0, 7}, {9, 8, 7, 6}}
	ahead := slices.Clone(l)
	h.Tuple(handle(0), l[:3])
	h.Tuple(handle(0), l)
	h.Tuple(handle(1), l)
	h.Tuple(handle(0), slices.Repeat(l, 4))
	for k := range int64(5) {
		h.Set(tuple(0, 0), k, num(50))
		h.Set(tuple(0, 1), k, num(60))
	}
	if !slices.Equal(l, ahead) {
		t.Errorf("the list is %v now, was %v", l, ahead)
	}
}

func TestTuplesOfOneListShareNothing(t *testing.T) {
	h := withRegions(t, 1, 1)
	l := nums(3)
	wantTuple(t, h, tuple(0, 0), l...)
	wantTuple(t, h, tuple(0, 1), l...)
	wantSet(t, h, tuple(0, 0), 1, num(-5), 0)
	wantParts(t, h, tuple(0, 0), l[0], num(-5), l[2])
	wantParts(t, h, tuple(0, 1), l...)
}

func TestANilListAndAnEmptyOneAreTheSame(t *testing.T) {
	h := withRegions(t, 1, 1)
	for i, l := range [][]Val{nil, {}, nums(4)[:0]} {
		if got, code := h.Tuple(handle(0), l); got != tuple(0, i) || code != 0 {
			t.Errorf("Tuple of no parts = %v, %d, want %v, 0", got, code, tuple(0, i))
		}
		wantParts(t, h, tuple(0, i))
	}
}
