package heap

import (
	"math"
	"testing"

	"copyhold/api"
)

// noParts are numbers of no part of a thing with so many.
func noParts(n int) []int64 {
	k := int64(n)
	return []int64{-1, -2, k, k + 1, -k - 1, 1000, 1 << 32, -1 << 32, 1<<32 + 1, math.MinInt64, math.MinInt64 + 1, math.MaxInt64 - 1, math.MaxInt64}
}

// P13.4

func TestGetAndSetOfEachPartOfATuple(t *testing.T) {
	for _, n := range []int{1, 2, api.MaxFields, api.PageWords, api.PageWords + 5} {
		h := withRegions(t, 1, 1)
		parts := nums(n)
		wantTuple(t, h, tuple(0, 0), parts...)
		for k := range parts {
			for _, x := range []Val{num(-9), handle(0), tuple(0, 0), array(3, 4), handle(-1), {}, {Kind: 8}, num(math.MinInt64)} {
				wantSet(t, h, tuple(0, 0), int64(k), x, 0)
				parts[k] = x
				wantParts(t, h, tuple(0, 0), parts...)
			}
		}
		wantCounts(t, h, 0, 1)
	}
}

func TestGetAndSetOfEachPartOfAnArray(t *testing.T) {
	for n := range api.MaxArray + 1 {
		h := withRegions(t, 1, 1)
		parts := noughts(n)
		wantArray(t, h, array(0, 0), n)
		for k := range parts {
			for _, x := range []int64{5, -1, math.MinInt64, math.MaxInt64, 0, int64(k) + 1} {
				wantSet(t, h, array(0, 0), int64(k), num(x), 0)
				parts[k] = num(x)
				wantParts(t, h, array(0, 0), parts...)
			}
		}
		wantCounts(t, h, 0, 1)
	}
}

func TestErrRangeOfATuplesPart(t *testing.T) {
	for _, n := range []int{0, 1, 5, api.PageWords + 2} {
		h := withRegions(t, 1, 1)
		wantTuple(t, h, tuple(0, 0), nums(n)...)
		for _, k := range noParts(n) {
			wantGetCode(t, h, tuple(0, 0), k, api.ErrRange)
			wantSet(t, h, tuple(0, 0), k, num(99), api.ErrRange)
			wantSet(t, h, tuple(0, 0), k, handle(0), api.ErrRange)
			wantSet(t, h, tuple(0, 0), k, Val{}, api.ErrRange)
		}
		wantParts(t, h, tuple(0, 0), nums(n)...)
	}
}

func TestErrRangeOfAnArraysPart(t *testing.T) {
	for n := range api.MaxArray + 1 {
		h := withRegions(t, 1, 1)
		wantArray(t, h, array(0, 0), n)
		for _, k := range noParts(n) {
			wantGetCode(t, h, array(0, 0), k, api.ErrRange)
			wantSet(t, h, array(0, 0), k, num(99), api.ErrRange)
		}
		wantParts(t, h, array(0, 0), noughts(n)...)
	}
}

func TestSetOfAnArrayWithWhatIsNoInt(t *testing.T) {
	h := withRegions(t, 2, 1)
	wantArray(t, h, array(0, 0), 3)
	wantSet(t, h, array(0, 0), 1, num(6), 0)
	for _, x := range []Val{handle(0), tuple(0, 0), array(0, 0), {}, {N: 5}, {Kind: 5, N: 5}, {Kind: -1}, {Kind: VInt + 1<<32, N: 5}, {Kind: math.MinInt}, {Kind: math.MaxInt}} {
		for k := range int64(3) {
			wantSet(t, h, array(0, 0), k, x, api.ErrStuck)
		}
		// ErrStuck stands ahead of ErrRange.
		for _, k := range noParts(3) {
			wantSet(t, h, array(0, 0), k, x, api.ErrStuck)
		}
		wantParts(t, h, array(0, 0), num(0), num(6), num(0))
	}
	wantTuple(t, h, tuple(0, 1), num(1))
	wantSet(t, h, tuple(0, 1), 0, handle(0), 0)
}

func TestStuckOnWhatIsNoThing(t *testing.T) {
	h := withRegions(t, 2, 2)
	wantTuple(t, h, tuple(0, 0), num(1), num(2))
	wantArray(t, h, array(0, 1), 2)
	// Each of these names a region, and most of them a thing of it, that are there.
	for _, kind := range []int{0, VInt, VHandle, 5, 6, -1, -VTuple, VTuple + 1<<32, VArray + 1<<32, math.MinInt, math.MaxInt} {
		wantStuck(t, h, Val{Kind: kind}, Val{Kind: kind, Thing: 1}, Val{Kind: kind, Region: 1}, Val{Kind: kind, N: 1})
	}
	wantParts(t, h, tuple(0, 0), num(1), num(2))
	wantParts(t, h, array(0, 1), noughts(2)...)
}

func TestStuckOnATupleTakenForAnArrayAndTheOtherWayRound(t *testing.T) {
	h := withRegions(t, 2, 1)
	wantTuple(t, h, tuple(0, 0), num(1), num(2))
	wantArray(t, h, array(0, 1), 2)
	wantTuple(t, h, tuple(0, 2))
	wantArray(t, h, array(0, 3), 0)
	wantStuck(t, h, array(0, 0), tuple(0, 1), array(0, 2), tuple(0, 3))
	wantParts(t, h, tuple(0, 0), num(1), num(2))
	wantParts(t, h, array(0, 1), noughts(2)...)
	wantParts(t, h, tuple(0, 2))
	wantParts(t, h, array(0, 3))
}

func TestStuckOnARegionThatIsGoneOrNeverWas(t *testing.T) {
	h := withRegions(t, 3, 3)
	for r := range 3 {
		wantTuple(t, h, tuple(r, 0), num(int64(r)))
		wantArray(t, h, array(r, 1), 2)
	}
	wantShut(t, h, true, handle(1))
	wantStuck(t, h, tuple(1, 0), array(1, 1))
	for _, r := range noRegions(3) {
		wantStuck(t, h, tuple(r, 0), array(r, 0), tuple(r, 1), array(r, 1))
	}
	for _, r := range []int{0, 2} {
		wantParts(t, h, tuple(r, 0), num(int64(r)))
		wantParts(t, h, array(r, 1), noughts(2)...)
	}
	// The things of a region that is opened then have nothing of those that are gone.
	wantOpen(t, h, 3)
	wantTuple(t, h, tuple(3, 0), num(30))
	wantStuck(t, h, tuple(1, 0), array(1, 1), array(3, 1))
	wantCounts(t, h, 0, 3)
}

func TestStuckOnAThingThatThereIsNot(t *testing.T) {
	h := withRegions(t, 3, 2)
	wantTuple(t, h, tuple(0, 0), num(1), num(2))
	wantArray(t, h, array(0, 1), 2)
	for _, thing := range []int{2, 3, 1000, 1 << 32, 1<<32 + 1, -1, -2, -1 << 32, math.MinInt, math.MaxInt} {
		wantStuck(t, h, tuple(0, thing), array(0, thing))
	}
	for _, thing := range []int{0, 1, -1} {
		wantStuck(t, h, tuple(1, thing), array(1, thing))
	}
	wantTuple(t, h, tuple(0, 2), num(3))
	wantParts(t, h, tuple(0, 2), num(3))
}

func TestASetChangesOnePartOfOneThingAlone(t *testing.T) {
	h := withRegions(t, 9, 3)
	want := map[Val][]Val{}
	for r := range 3 {
		for i := range 2 {
			want[tuple(r, 2*i)] = nums(3)
			want[array(r, 2*i+1)] = noughts(3)
			wantTuple(t, h, tuple(r, 2*i), nums(3)...)
			wantArray(t, h, array(r, 2*i+1), 3)
		}
	}
	n := int64(100)
	for v := range want {
		for k := range int64(3) {
			n++
			wantSet(t, h, v, k, num(n), 0)
			want[v][k] = num(n)
			for other, parts := range want {
				wantParts(t, h, other, parts...)
			}
		}
	}
	wantCounts(t, h, 6, 3)
}

func TestATupleThatIsReachedByTwoWaysIsOne(t *testing.T) {
	h := withRegions(t, 2, 1)
	wantTuple(t, h, tuple(0, 0), num(1))
	wantTuple(t, h, tuple(0, 1), tuple(0, 0), tuple(0, 0), num(1))
	first, _ := h.Get(tuple(0, 1), 0)
	second, _ := h.Get(tuple(0, 1), 1)
	wantSet(t, h, first, 0, num(2), 0)
	wantParts(t, h, second, num(2))
	wantParts(t, h, tuple(0, 1), tuple(0, 0), tuple(0, 0), num(1))
}

func TestATupleMayHaveItselfAsAPart(t *testing.T) {
	h := withRegions(t, 1, 1)
	wantTuple(t, h, tuple(0, 0), num(1), num(2))
	wantSet(t, h, tuple(0, 0), 1, tuple(0, 0), 0)
	v := tuple(0, 0)
	for range 100 {
		v, _ = h.Get(v, 1)
	}
	wantParts(t, h, v, num(1), tuple(0, 0))
}

// A value: all of it that its kind does not name is 0

// whole are values with all fields set, and what their kinds name of them.
func whole() (given, bare []Val) {
	given = []Val{{VInt, 3, 4, 5}, {VHandle, 3, 4, 5}, {VTuple, 3, 4, 5}, {VArray, 3, 4, 5}, {0, 3, 4, 5}, {9, 3, 4, 5}, {-1, -3, -4, -5}}
	bare = []Val{{VInt, 0, 0, 5}, {VHandle, 3, 0, 0}, {VTuple, 3, 4, 0}, {VArray, 3, 4, 0}, {}, {Kind: 9}, {Kind: -1}}
	return given, bare
}

func TestAPartHasWhatItsKindNamesAlone(t *testing.T) {
	h := withRegions(t, 2, 1)
	given, bare := whole()
	wantTuple(t, h, tuple(0, 0), given...)
	wantParts(t, h, tuple(0, 0), bare...)
	wantTuple(t, h, tuple(0, 1), num(7))
	for i, x := range given {
		wantSet(t, h, tuple(0, 1), 0, x, 0)
		wantParts(t, h, tuple(0, 1), bare[i])
	}
	wantArray(t, h, array(0, 2), 1)
	wantSet(t, h, array(0, 2), 0, given[0], 0)
	wantParts(t, h, array(0, 2), bare[0])
}

func TestAValueIsTakenForWhatItsKindNames(t *testing.T) {
	h := withRegions(t, 2, 2)
	v, code := h.Tuple(Val{VHandle, 1, 8, 9}, nums(2))
	if v != tuple(1, 0) || code != 0 {
		t.Errorf("a tuple: %v, %d, want %v, 0", v, code, tuple(1, 0))
	}
	v, code = h.Array(Val{VHandle, 1, -8, -9}, 2)
	if v != array(1, 1) || code != 0 {
		t.Errorf("an array: %v, %d, want %v, 0", v, code, array(1, 1))
	}
	wantParts(t, h, Val{VTuple, 1, 0, 77}, nums(2)...)
	wantSet(t, h, Val{VArray, 1, 1, -1}, 0, num(4), 0)
	wantParts(t, h, array(1, 1), num(4), num(0))
	wantShut(t, h, true, Val{VHandle, 1, 5, 6})
	wantShut(t, h, false, Val{VHandle, 1, 5, 6}, handle(1))
	wantCounts(t, h, 2, 1)
}
