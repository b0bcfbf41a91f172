package held

import (
	"math"
	"math/rand"
	"slices"
	"testing"

	"copyhold/api"
)

// outside are numbers that no region ever has.
func outside() []int {
	return []int{-1, -2, -api.MaxRegions, api.MaxRegions, api.MaxRegions + 1, 1000, 1 << 32, -1 << 32, math.MinInt, math.MaxInt}
}

func upTo(n int) []int {
	var list []int
	for r := range n {
		list = append(list, r)
	}
	return list
}

// holding answers an object with n regions of which just these are held.
func holding(t *testing.T, n int, held ...int) *Held {
	t.Helper()
	h := New(n)
	for r := range n {
		if !slices.Contains(held, r) {
			wantShut(t, h, true, r)
		}
	}
	wantState(t, h, n, held...)
	return h
}

func wantOpen(t *testing.T, h *Held, want ...int) {
	t.Helper()
	for i, r := range want {
		if got := h.Open(); got != r {
			t.Errorf("open %d of %v: %d, want %d", i, want, got, r)
		}
	}
}

func wantShut(t *testing.T, h *Held, want bool, regions ...int) {
	t.Helper()
	for _, r := range regions {
		if got := h.Shut(r); got != want {
			t.Errorf("Shut(%d) = %v, want %v", r, got, want)
		}
	}
}

func wantPass(t *testing.T, h *Held, want int, l ...int) {
	t.Helper()
	if got := h.Pass(l); got != want {
		t.Errorf("of %v: Pass(%v) = %d, want %d", h.List(), l, got, want)
	}
}

// wantState looks at all that Len, List and Has tell: held are those that are held, rising.
func wantState(t *testing.T, h *Held, n int, held ...int) {
	t.Helper()
	if got := h.Len(); got != n {
		t.Errorf("Len() = %d, want %d", got, n)
	}
	if got := h.List(); !slices.Equal(got, held) {
		t.Errorf("List() = %v, want %v", got, held)
	}
	for _, r := range append(upTo(api.MaxRegions), outside()...) {
		if got, want := h.Has(r), slices.Contains(held, r); got != want {
			t.Errorf("Has(%d) = %v, want %v", r, got, want)
		}
	}
}

// New

func TestNewHoldsAllItsRegions(t *testing.T) {
	for n := range api.MaxRegions + 1 {
		wantState(t, New(n), n, upTo(n)...)
	}
}

func TestNewHoldsNoMoreThanMaxRegions(t *testing.T) {
	for _, n := range []int{api.MaxRegions + 1, 99, 1000, 1 << 32, math.MaxInt} {
		h := New(n)
		wantState(t, h, api.MaxRegions, upTo(api.MaxRegions)...)
		wantOpen(t, h, -1)
	}
}

func TestNewBelowNoughtHoldsNone(t *testing.T) {
	for _, n := range []int{-1, -2, -api.MaxRegions, -1 << 32, math.MinInt} {
		h := New(n)
		wantState(t, h, 0)
		wantPass(t, h, 0)
		wantOpen(t, h, 0, 1)
		wantState(t, h, 2, 0, 1)
	}
}

// Open

func TestOpenGoesOnBehindTheLastOne(t *testing.T) {
	for n := range api.MaxRegions + 1 {
		h := New(n)
		for r := n; r < api.MaxRegions; r++ {
			wantOpen(t, h, r)
			wantState(t, h, r+1, upTo(r+1)...)
		}
		wantOpen(t, h, -1, -1)
		wantState(t, h, api.MaxRegions, upTo(api.MaxRegions)...)
	}
}

func TestOpenNeverGivesANumberTwice(t *testing.T) {
	h := New(2)
	wantShut(t, h, true, 1)
	wantOpen(t, h, 2)
	wantState(t, h, 3, 0, 2)
	wantShut(t, h, true, 0, 2)
	wantState(t, h, 3)
	wantOpen(t, h, 3, 4)
	wantState(t, h, 5, 3, 4)
}

func TestOpenWhereThereAreMaxRegionsIsNoneBehindAShut(t *testing.T) {
	for r := range api.MaxRegions {
		h := New(api.MaxRegions)
		wantShut(t, h, true, r)
		wantOpen(t, h, -1)
		wantState(t, h, api.MaxRegions, slices.Delete(upTo(api.MaxRegions), r, r+1)...)
	}
	h := holding(t, api.MaxRegions)
	wantOpen(t, h, -1)
	wantState(t, h, api.MaxRegions)
}

func TestOpenAndShutInTurnTillThereAreMaxRegions(t *testing.T) {
	h := New(0)
	for r := range api.MaxRegions {
		wantOpen(t, h, r)
		wantState(t, h, r+1, r)
		wantShut(t, h, true, r)
		wantState(t, h, r+1)
	}
	wantOpen(t, h, -1)
	wantState(t, h, api.MaxRegions)
}

// Shut, Has, Len, List

func TestShutOfEachInWhateverOrder(t *testing.T) {
	for seed := range int64(200) {
		r := rand.New(rand.NewSource(seed))
		n := r.Intn(api.MaxRegions + 1)
		h, left := New(n), upTo(n)
		for _, k := range r.Perm(n) {
			wantShut(t, h, true, k)
			left = slices.DeleteFunc(left, func(x int) bool { return x == k })
			wantState(t, h, n, left...)
			wantShut(t, h, false, k)
			wantState(t, h, n, left...)
		}
	}
}

func TestShutOfWhatNeverWasChangesNothing(t *testing.T) {
	for n := range api.MaxRegions + 1 {
		h := New(n)
		for r := n; r < api.MaxRegions; r++ {
			wantShut(t, h, false, r)
		}
		wantShut(t, h, false, outside()...)
		wantState(t, h, n, upTo(n)...)
	}
}

func TestShutAheadOfOpenDoesNotShutWhatIsOpenedThen(t *testing.T) {
	h := New(1)
	wantShut(t, h, false, 1)
	wantOpen(t, h, 1)
	wantState(t, h, 2, 0, 1)
	wantShut(t, h, true, 1)
	wantShut(t, h, false, 1)
	wantState(t, h, 2, 0)
}

// P10.1

func TestPassOfAllThatIsHeldInEachOrder(t *testing.T) {
	for _, held := range [][]int{{}, {3}, {1, 4}, {0, 1, 2}, {0, 2, 3, 5}, {1, 2, 3, 4, 5}} {
		h := holding(t, 6, held...)
		eachOrder(held, func(l []int) { wantPass(t, h, 0, l...) })
		wantState(t, h, 6, held...)
	}
}

// eachOrder hands the elements over in each order that they can stand in.
func eachOrder(l []int, yield func([]int)) {
	if len(l) == 0 {
		yield(nil)
	}
	for i, x := range l {
		rest := slices.Delete(slices.Clone(l), i, i+1)
		eachOrder(rest, func(tail []int) { yield(append([]int{x}, tail...)) })
	}
}

func TestPassOfMaxRegionsInManyOrders(t *testing.T) {
	h := New(api.MaxRegions)
	wantPass(t, h, 0, upTo(api.MaxRegions)...)
	for seed := range int64(100) {
		l := rand.New(rand.NewSource(seed)).Perm(api.MaxRegions)
		wantPass(t, h, 0, l...)
		wantPass(t, h, api.ErrLeft, l[1:]...)
		wantPass(t, h, api.ErrTwice, append(l, l[int(seed)%len(l)])...)
		wantPass(t, h, api.ErrHeld, append(l, api.MaxRegions)...)
	}
}

func TestPassOfNoneWhereNoneIsHeld(t *testing.T) {
	for n := range api.MaxRegions + 1 {
		h := holding(t, n)
		if h.Pass(nil) != 0 || h.Pass([]int{}) != 0 {
			t.Errorf("%d regions, none held: Pass of none is not 0", n)
		}
	}
}

func TestPassOfNoneWhereOneIsHeld(t *testing.T) {
	for r := range api.MaxRegions {
		h := holding(t, api.MaxRegions, r)
		if h.Pass(nil) != api.ErrLeft || h.Pass([]int{}) != api.ErrLeft {
			t.Errorf("%d is held: Pass of none is not ErrLeft", r)
		}
		wantPass(t, h, 0, r)
	}
}

func TestPassOfOneThatIsNotHeld(t *testing.T) {
	h := holding(t, 5, 0, 3)
	for _, r := range append([]int{1, 2, 4, 5, 6, api.MaxRegions - 1}, outside()...) {
		wantPass(t, h, api.ErrHeld, r)
		wantPass(t, h, api.ErrHeld, r, 0, 3)
		wantPass(t, h, api.ErrHeld, 0, r, 3)
		wantPass(t, h, api.ErrHeld, 0, 3, r)
	}
}

func TestPassOfOneThatStandsThereAhead(t *testing.T) {
	h := holding(t, 5, 0, 3, 4)
	wantPass(t, h, api.ErrTwice, 0, 3, 4, 0)
	wantPass(t, h, api.ErrTwice, 0, 3, 4, 3)
	wantPass(t, h, api.ErrTwice, 0, 3, 4, 4)
	wantPass(t, h, api.ErrTwice, 4, 4, 3, 0)
	wantPass(t, h, api.ErrTwice, 3, 0, 3, 4)
}

func TestPassLeavesOneOut(t *testing.T) {
	for r := range api.MaxRegions {
		h := New(api.MaxRegions)
		wantPass(t, h, api.ErrLeft, slices.Delete(upTo(api.MaxRegions), r, r+1)...)
	}
	h := holding(t, 4, 1, 3)
	wantPass(t, h, api.ErrLeft, 1)
	wantPass(t, h, api.ErrLeft, 3)
}

func TestPassOfTwoFaultsTellsTheOneAtTheFront(t *testing.T) {
	h := holding(t, 4, 0, 2)
	wantPass(t, h, api.ErrTwice, 0, 0, 1)
	wantPass(t, h, api.ErrTwice, 0, 2, 0, 9)
	wantPass(t, h, api.ErrHeld, 0, 1, 0)
	wantPass(t, h, api.ErrHeld, 0, -1, 0)
	// What is not held and stands there ahead was not held there, either.
	wantPass(t, h, api.ErrHeld, 1, 1)
	wantPass(t, h, api.ErrHeld, 0, 9, 9)
}

func TestPassTellsErrLeftLast(t *testing.T) {
	h := holding(t, 4, 0, 2)
	wantPass(t, h, api.ErrTwice, 0, 0)
	wantPass(t, h, api.ErrTwice, 2, 2)
	wantPass(t, h, api.ErrHeld, 0, 1)
	wantPass(t, h, api.ErrHeld, 4)
	wantPass(t, h, api.ErrHeld, -1)
	wantPass(t, h, api.ErrHeld, 0, 3, 3)
	wantPass(t, h, api.ErrTwice, 0, 0, 3)
}

func TestPassFollowsOpenAndShut(t *testing.T) {
	h := New(1)
	wantPass(t, h, 0, 0)
	wantPass(t, h, api.ErrHeld, 0, 1)
	wantOpen(t, h, 1)
	wantPass(t, h, api.ErrLeft, 0)
	wantPass(t, h, 0, 1, 0)
	wantShut(t, h, true, 0)
	wantPass(t, h, api.ErrHeld, 1, 0)
	wantPass(t, h, 0, 1)
	wantShut(t, h, true, 1)
	wantPass(t, h, 0)
}

func TestPassChangesNothing(t *testing.T) {
	h := holding(t, 5, 0, 3)
	for _, l := range [][]int{{0, 3}, {3, 0}, {0}, {0, 0}, {1}, {0, 9}, {-1}, nil} {
		ahead := h.Pass(l)
		wantState(t, h, 5, 0, 3)
		wantPass(t, h, ahead, l...)
	}
	wantOpen(t, h, 5)
	wantShut(t, h, true, 0, 3, 5)
}

func TestPassOfALongList(t *testing.T) {
	h := New(2)
	wantPass(t, h, api.ErrTwice, make([]int, 1<<20)...)
	wantPass(t, h, api.ErrHeld, slices.Repeat([]int{-1}, 1<<20)...)
	wantPass(t, h, api.ErrTwice, slices.Repeat([]int{1, 0}, 1<<19)...)
}

// plainPass is the chapter's own words: each element is asked for by itself, of those that are held and of those ahead.
func plainPass(held, l []int) int {
	for i, r := range l {
		if !slices.Contains(held, r) {
			return api.ErrHeld
		}
		if slices.Contains(l[:i], r) {
			return api.ErrTwice
		}
	}
	for _, r := range held {
		if !slices.Contains(l, r) {
			return api.ErrLeft
		}
	}
	return 0
}

func TestPassOfAllShortListsIsAsThePlainOne(t *testing.T) {
	const n = 4
	for bits := range 1 << n {
		held := slices.DeleteFunc(upTo(n), func(r int) bool { return bits>>r&1 == 0 })
		h := holding(t, n, held...)
		eachList([]int{-1, 0, 1, 2, 3, 4}, 5, nil, func(l []int) {
			wantPass(t, h, plainPass(held, l), l...)
		})
		wantState(t, h, n, held...)
	}
}

// eachList hands over each list of at most so many more of the numbers behind those that stand ahead.
func eachList(numbers []int, more int, ahead []int, yield func([]int)) {
	yield(ahead)
	if more == 0 {
		return
	}
	for _, r := range numbers {
		eachList(numbers, more-1, append(slices.Clone(ahead), r), yield)
	}
}

// plain keeps the regions that are held as a list, and how many there ever were.
type plain struct {
	held []int
	n    int
}

func (m *plain) open() int {
	if m.n == api.MaxRegions {
		return -1
	}
	m.held = append(m.held, m.n)
	m.n++
	return m.n - 1
}

func (m *plain) shut(r int) bool {
	i := slices.Index(m.held, r)
	if i < 0 {
		return false
	}
	m.held = slices.Delete(m.held, i, i+1)
	return true
}

func TestLongRunsAreAsThePlainOne(t *testing.T) {
	for seed := range int64(300) {
		r := rand.New(rand.NewSource(seed))
		n := r.Intn(api.MaxRegions + 1)
		h, m := New(n), &plain{upTo(n), n}
		for step := range 100 {
			if !sameStep(r, h, m) {
				t.Fatalf("seed %d, step %d: held and plain held differ", seed, step)
			}
			wantState(t, h, m.n, m.held...)
		}
	}
}

func sameStep(r *rand.Rand, h *Held, m *plain) bool {
	switch r.Intn(8) {
	case 0:
		return h.Open() == m.open()
	case 1:
		k := r.Intn(api.MaxRegions+4) - 2
		return h.Shut(k) == m.shut(k)
	}
	l := slices.Clone(m.held)
	r.Shuffle(len(l), func(i, k int) { l[i], l[k] = l[k], l[i] })
	for range r.Intn(3) {
		l = spoilt(r, l)
	}
	return h.Pass(l) == plainPass(m.held, l)
}

// spoilt puts a number into the list, over another one, or takes one away.
func spoilt(r *rand.Rand, l []int) []int {
	k := r.Intn(api.MaxRegions+4) - 2
	if at := r.Intn(len(l) + 1); at == len(l) || r.Intn(3) == 0 {
		return slices.Insert(l, at, k)
	} else if r.Intn(2) == 0 {
		return slices.Delete(l, at, at+1)
	} else {
		l[at] = k
	}
	return l
}

// What holds everywhere

func TestTwoObjectsKnowNothingOfEachOther(t *testing.T) {
	a, b := New(3), New(3)
	wantShut(t, a, true, 1)
	wantOpen(t, a, 3, 4)
	wantState(t, b, 3, 0, 1, 2)
	wantPass(t, b, 0, 0, 1, 2)
	wantPass(t, a, 0, 0, 2, 3, 4)
	wantShut(t, b, true, 0, 1, 2)
	wantState(t, a, 5, 0, 2, 3, 4)
	wantOpen(t, b, 3)
	wantState(t, b, 4, 3)
	wantState(t, New(3), 3, 0, 1, 2)
}

func TestAListThatWasAnsweredIsNewMemory(t *testing.T) {
	h := holding(t, 5, 0, 2, 4)
	first, second := h.List(), h.List()
	first[0], first[2] = 7, -1
	_ = append(first[:1], 9)
	wantState(t, h, 5, 0, 2, 4)
	wantPass(t, h, 0, 4, 2, 0)
	if !slices.Equal(second, []int{0, 2, 4}) {
		t.Errorf("the second list is %v, want [0 2 4]", second)
	}
	wantShut(t, h, true, 2)
	wantOpen(t, h, 5)
	if !slices.Equal(first, []int{7, 9, -1}) || !slices.Equal(second, []int{0, 2, 4}) {
		t.Errorf("lists answered earlier are %v, %v, want [7 9 -1], [0 2 4]", first, second)
	}
	_ = append(h.List(), 11)
	wantState(t, h, 6, 0, 4, 5)
}

func TestAListThatIsHandedInStaysAsItWas(t *testing.T) {
	h := holding(t, 5, 0, 2, 4)
	for _, l := range [][]int{{4, 0, 2, 0, 9}, {4, 0, 4, 2, 0}, {2, 1, 0, 4, 4}, {4, 2, 3, 0, -1}, {9, -1, 9, 0, 2}} {
		ahead := slices.Clone(l)
		for n := range len(l) + 1 {
			h.Pass(l[:n])
			if !slices.Equal(l, ahead) {
				t.Fatalf("Pass of the first %d of %v: the list is %v now", n, ahead, l)
			}
		}
	}
}

func TestWhatLiesBehindAListsLengthIsNotRead(t *testing.T) {
	h := holding(t, 5, 0, 2, 4)
	l := []int{4, 0, 2, 2, 9}
	wantPass(t, h, api.ErrLeft, l[:2]...)
	wantPass(t, h, 0, l[:3]...)
	wantPass(t, h, api.ErrTwice, l[:4]...)
	wantPass(t, h, api.ErrLeft, l[:0]...)
}

func TestAListThatIsHandedInIsNotKept(t *testing.T) {
	h := holding(t, 5, 0, 2, 4)
	l := []int{4, 0, 2}
	wantPass(t, h, 0, l...)
	l[0] = 3
	wantState(t, h, 5, 0, 2, 4)
	wantPass(t, h, api.ErrHeld, l...)
	wantPass(t, h, 0, 4, 0, 2)
}
