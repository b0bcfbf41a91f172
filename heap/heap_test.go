package heap

import (
	"math"
	"slices"
	"testing"

	"copyhold/api"
)

func num(n int64) Val { return Val{Kind: VInt, N: n} }

func handle(region int) Val { return Val{Kind: VHandle, Region: region} }

func tuple(region, thing int) Val { return Val{Kind: VTuple, Region: region, Thing: thing} }

func array(region, thing int) Val { return Val{Kind: VArray, Region: region, Thing: thing} }

// nums answers so many ints, each another one.
func nums(n int) []Val {
	var list []Val
	for i := range n {
		list = append(list, num(int64(i)*3+7))
	}
	return list
}

func noughts(n int) []Val {
	return slices.Repeat([]Val{num(0)}, n)
}

// withRegions answers a heap whose regions 0 to regions - 1 are there.
func withRegions(t *testing.T, pages, regions int) *Heap {
	t.Helper()
	h := New(pages)
	for r := range regions {
		wantOpen(t, h, r)
	}
	wantCounts(t, h, pages, regions)
	return h
}

func wantOpen(t *testing.T, h *Heap, regions ...int) {
	t.Helper()
	for _, r := range regions {
		if v, ok := h.Open(); v != handle(r) || !ok {
			t.Errorf("Open() = %v, %v, want %v, true", v, ok, handle(r))
		}
	}
}

func wantNoOpen(t *testing.T, h *Heap) {
	t.Helper()
	if v, ok := h.Open(); v != (Val{}) || ok {
		t.Errorf("Open() = %v, %v, want the zero value, false", v, ok)
	}
}

func wantShut(t *testing.T, h *Heap, want bool, values ...Val) {
	t.Helper()
	for _, v := range values {
		if got := h.Shut(v); got != want {
			t.Errorf("Shut(%v) = %v, want %v", v, got, want)
		}
	}
}

func wantCounts(t *testing.T, h *Heap, pages, live int) {
	t.Helper()
	if got := h.Pages(); got != pages {
		t.Errorf("Pages() = %d, want %d", got, pages)
	}
	if got := h.Live(); got != live {
		t.Errorf("Live() = %d, want %d", got, live)
	}
}

func wantTuple(t *testing.T, h *Heap, want Val, l ...Val) {
	t.Helper()
	v := handle(want.Region)
	if got, code := h.Tuple(v, l); got != want || code != 0 {
		t.Errorf("Tuple(%v, %d parts) = %v, %d, want %v, 0", v, len(l), got, code, want)
	}
}

func wantArray(t *testing.T, h *Heap, want Val, n int) {
	t.Helper()
	v := handle(want.Region)
	if got, code := h.Array(v, n); got != want || code != 0 {
		t.Errorf("Array(%v, %d) = %v, %d, want %v, 0", v, n, got, code, want)
	}
}

func wantTupleCode(t *testing.T, h *Heap, want int, v Val, l ...Val) {
	t.Helper()
	if got, code := h.Tuple(v, l); got != (Val{}) || code != want {
		t.Errorf("Tuple(%v, %d parts) = %v, %d, want the zero value, %d", v, len(l), got, code, want)
	}
}

func wantArrayCode(t *testing.T, h *Heap, want int, v Val, n int) {
	t.Helper()
	if got, code := h.Array(v, n); got != (Val{}) || code != want {
		t.Errorf("Array(%v, %d) = %v, %d, want the zero value, %d", v, n, got, code, want)
	}
}

func wantGet(t *testing.T, h *Heap, v Val, k int64, want Val) {
	t.Helper()
	if got, code := h.Get(v, k); got != want || code != 0 {
		t.Errorf("Get(%v, %d) = %v, %d, want %v, 0", v, k, got, code, want)
	}
}

func wantGetCode(t *testing.T, h *Heap, v Val, k int64, want int) {
	t.Helper()
	if got, code := h.Get(v, k); got != (Val{}) || code != want {
		t.Errorf("Get(%v, %d) = %v, %d, want the zero value, %d", v, k, got, code, want)
	}
}

func wantSet(t *testing.T, h *Heap, v Val, k int64, x Val, want int) {
	t.Helper()
	if got := h.Set(v, k, x); got != want {
		t.Errorf("Set(%v, %d, %v) = %d, want %d", v, k, x, got, want)
	}
}

func wantLen(t *testing.T, h *Heap, v Val, want, wantCode int) {
	t.Helper()
	if got, code := h.Len(v); got != want || code != wantCode {
		t.Errorf("Len(%v) = %d, %d, want %d, %d", v, got, code, want, wantCode)
	}
}

// wantParts looks at all that Len and Get tell of a thing.
func wantParts(t *testing.T, h *Heap, v Val, parts ...Val) {
	t.Helper()
	wantLen(t, h, v, len(parts), 0)
	for k, want := range parts {
		wantGet(t, h, v, int64(k), want)
	}
	wantGetCode(t, h, v, -1, api.ErrRange)
	wantGetCode(t, h, v, int64(len(parts)), api.ErrRange)
}

// wantStuck: nothing can be got of, set in or counted of it, whichever part is named and whatever is set.
func wantStuck(t *testing.T, h *Heap, values ...Val) {
	t.Helper()
	for _, v := range values {
		wantLen(t, h, v, 0, api.ErrStuck)
		for _, k := range []int64{0, 1, -1, api.MaxArray, math.MinInt64, math.MaxInt64} {
			wantGetCode(t, h, v, k, api.ErrStuck)
			wantSet(t, h, v, k, num(5), api.ErrStuck)
			wantSet(t, h, v, k, handle(0), api.ErrStuck)
		}
	}
}

// noRegions are numbers that no region has had, where there were so many.
func noRegions(made int) []int {
	return []int{made, made + 1, made + api.MaxRegions, 1000, 1 << 32, math.MaxInt, -1, -2, -api.MaxRegions, -1 << 32, math.MinInt}
}

// noHandles are no handles of a region that is there: each other kind with numbers of things that are there, kinds that there are not, and regions that never were.
func noHandles(made int) []Val {
	list := []Val{{}, num(0), num(1), tuple(0, 0), tuple(0, 1), array(0, 0), array(0, 1)}
	for _, kind := range []int{0, 5, 6, -1, -VHandle, VHandle + 1<<32, math.MinInt, math.MaxInt} {
		list = append(list, Val{Kind: kind}, Val{Kind: kind, Region: 1})
	}
	for _, r := range noRegions(made) {
		list = append(list, handle(r))
	}
	return list
}

// New, Pages, Live

func TestNewHasPagesAndNoRegions(t *testing.T) {
	for pages := range api.MaxPages + 1 {
		h := New(pages)
		wantCounts(t, h, pages, 0)
		wantShut(t, h, false, noHandles(0)...)
		wantStuck(t, h, tuple(0, 0), array(0, 0))
		wantCounts(t, h, pages, 0)
		wantOpen(t, h, 0)
		wantCounts(t, h, pages, 1)
	}
}

func TestNewOfNoPages(t *testing.T) {
	h := withRegions(t, 0, 2)
	wantTupleCode(t, h, api.ErrFull, handle(0))
	wantTupleCode(t, h, api.ErrFull, handle(1), nums(3)...)
	wantArrayCode(t, h, api.ErrFull, handle(1), 0)
	wantCounts(t, h, 0, 2)
	wantShut(t, h, true, handle(0))
	wantCounts(t, h, 0, 1)
}

func TestNewOfANegativeNumberOfPages(t *testing.T) {
	for _, pages := range []int{-1, -2, -api.MaxPages, -1 << 32, math.MinInt} {
		h := withRegions(t, pages, api.MaxRegions)
		wantNoOpen(t, h)
		for r := range api.MaxRegions {
			wantTupleCode(t, h, api.ErrFull, handle(r), num(1))
			wantArrayCode(t, h, api.ErrFull, handle(r), api.MaxArray)
			wantShut(t, h, true, handle(r))
			wantCounts(t, h, pages, api.MaxRegions-r-1)
		}
	}
}

func TestNewOfMoreThanMaxPages(t *testing.T) {
	for _, pages := range []int{api.MaxPages + 1, 1000, 1 << 32, math.MaxInt} {
		h := withRegions(t, pages, 1)
		for i := range api.MaxPages + 1 {
			wantArray(t, h, array(0, i), api.MaxArray)
			wantCounts(t, h, pages-i-1, 1)
		}
		wantShut(t, h, true, handle(0))
		wantCounts(t, h, pages, 0)
	}
	h := withRegions(t, api.MaxPages+1, 1)
	for i := range api.MaxPages + 1 {
		wantArray(t, h, array(0, i), api.MaxArray)
	}
	wantArrayCode(t, h, api.ErrFull, handle(0), 0)
	wantCounts(t, h, 0, 1)
}

// P13.1

func TestOpenUpToMaxRegionsAndOneMore(t *testing.T) {
	h := New(api.MaxRegions)
	for r := range api.MaxRegions {
		wantOpen(t, h, r)
		wantCounts(t, h, api.MaxRegions, r+1)
	}
	wantNoOpen(t, h)
	wantNoOpen(t, h)
	wantCounts(t, h, api.MaxRegions, api.MaxRegions)
	for r := range api.MaxRegions {
		wantTuple(t, h, tuple(r, 0), num(1))
	}
	wantCounts(t, h, 0, api.MaxRegions)
}

func TestOpenTakesNoPage(t *testing.T) {
	h := withRegions(t, 0, api.MaxRegions)
	wantNoOpen(t, h)
	wantCounts(t, h, 0, api.MaxRegions)
}

func TestOpenNeverGivesANumberTwice(t *testing.T) {
	h := withRegions(t, 2, api.MaxRegions)
	next := api.MaxRegions
	for _, r := range []int{3, 0, api.MaxRegions - 1, 7} {
		wantNoOpen(t, h)
		wantShut(t, h, true, handle(r))
		wantOpen(t, h, next)
		wantCounts(t, h, 2, api.MaxRegions)
		next++
	}
	wantNoOpen(t, h)
	wantShut(t, h, false, handle(3), handle(0), handle(api.MaxRegions-1), handle(7))
	wantShut(t, h, true, handle(next-1), handle(next-4))
	wantOpen(t, h, next, next+1)
	wantNoOpen(t, h)
}

func TestOpenThatToldFalseTookNoNumber(t *testing.T) {
	h := withRegions(t, 2, api.MaxRegions)
	for range 5 {
		wantNoOpen(t, h)
	}
	wantShut(t, h, true, handle(2))
	wantOpen(t, h, api.MaxRegions)
}

func TestOpenAndShutInTurnFarBeyondMaxRegions(t *testing.T) {
	h := New(1)
	for r := range 50 * api.MaxRegions {
		wantOpen(t, h, r)
		wantArray(t, h, array(r, 0), 3)
		wantCounts(t, h, 0, 1)
		wantShut(t, h, true, handle(r))
		wantShut(t, h, false, handle(r))
		wantStuck(t, h, array(r, 0))
		wantCounts(t, h, 1, 0)
	}
}

func TestARegionOpenedBehindAShutIsEmpty(t *testing.T) {
	h := withRegions(t, 2, 1)
	wantTuple(t, h, tuple(0, 0), num(1))
	wantArray(t, h, array(0, 1), 2)
	wantShut(t, h, true, handle(0))
	wantOpen(t, h, 1)
	wantStuck(t, h, tuple(1, 0), array(1, 0), array(1, 1))
	wantCounts(t, h, 2, 1)
	wantArray(t, h, array(1, 0), 0)
	wantCounts(t, h, 1, 1)
}

// P13.2

func TestShutInSeveralOrders(t *testing.T) {
	for _, order := range [][]int{{0, 1, 2, 3}, {3, 2, 1, 0}, {2, 0, 3, 1}, {1, 3, 0, 2}} {
		h := withRegions(t, 20, 4)
		for r := range 4 {
			for i := range r + 1 {
				wantTuple(t, h, tuple(r, i), nums(api.PageWords)...)
			}
		}
		left := 20 - 1 - 2 - 3 - 4
		wantCounts(t, h, left, 4)
		for i, r := range order {
			wantShut(t, h, true, handle(r))
			left += r + 1
			wantCounts(t, h, left, 3-i)
			wantShut(t, h, false, handle(r))
			wantStuck(t, h, tuple(r, 0), tuple(r, r))
			for _, other := range order[i+1:] {
				wantParts(t, h, tuple(other, other), nums(api.PageWords)...)
			}
			wantCounts(t, h, left, 3-i)
		}
	}
}

func TestShutOfWhatIsNoHandleChangesNothing(t *testing.T) {
	h := withRegions(t, 3, 2)
	wantTuple(t, h, tuple(0, 0), num(4), handle(1))
	wantArray(t, h, array(0, 1), 2)
	wantArray(t, h, array(1, 0), 1)
	for _, v := range noHandles(2) {
		wantShut(t, h, false, v)
		wantCounts(t, h, 1, 2)
	}
	wantParts(t, h, tuple(0, 0), num(4), handle(1))
	wantParts(t, h, array(0, 1), noughts(2)...)
	wantParts(t, h, array(1, 0), noughts(1)...)
	wantShut(t, h, true, handle(1), handle(0))
	wantCounts(t, h, 3, 0)
}

func TestShutAheadOfOpenDoesNotShutWhatIsOpenedThen(t *testing.T) {
	h := withRegions(t, 1, 1)
	wantShut(t, h, false, handle(1))
	wantOpen(t, h, 1)
	wantTuple(t, h, tuple(1, 0))
	wantShut(t, h, true, handle(1))
	wantShut(t, h, false, handle(1))
	wantCounts(t, h, 1, 1)
}

func TestShutOfAHandleThatLayInATuple(t *testing.T) {
	h := withRegions(t, 2, 2)
	wantTuple(t, h, tuple(0, 0), handle(1), handle(0), tuple(1, 0))
	wantTuple(t, h, tuple(1, 0), num(9))
	v, _ := h.Get(tuple(0, 0), 0)
	wantShut(t, h, true, v)
	wantParts(t, h, tuple(0, 0), handle(1), handle(0), tuple(1, 0))
	wantStuck(t, h, tuple(1, 0))
	wantTupleCode(t, h, api.ErrStuck, v)
	v, _ = h.Get(tuple(0, 0), 1)
	wantShut(t, h, true, v)
	wantStuck(t, h, tuple(0, 0))
	wantCounts(t, h, 2, 0)
}

// What holds everywhere

func TestTwoHeapsKnowNothingOfEachOther(t *testing.T) {
	a, b := New(2), New(2)
	wantOpen(t, a, 0, 1)
	wantOpen(t, b, 0)
	wantTuple(t, a, tuple(0, 0), num(5))
	wantArray(t, a, array(1, 0), 2)
	wantStuck(t, b, tuple(0, 0), array(1, 0))
	wantCounts(t, b, 2, 1)
	wantTuple(t, b, tuple(0, 0), num(8))
	wantSet(t, a, tuple(0, 0), 0, num(6), 0)
	wantParts(t, b, tuple(0, 0), num(8))
	wantShut(t, b, true, handle(0))
	wantShut(t, b, false, handle(1))
	wantParts(t, a, tuple(0, 0), num(6))
	wantCounts(t, a, 0, 2)
	wantCounts(t, b, 2, 0)
	wantOpen(t, b, 1)
	wantOpen(t, a, 2)
}
