package estate

import (
	"math"
	"math/rand"
	"slices"
	"testing"

	"copyhold/api"
)

func mustNew(t *testing.T, pages int) *Estate {
	t.Helper()
	e, f := New(pages)
	if e == nil || f != (api.Fault{}) {
		t.Fatalf("New(%d) = %v, %v, want an estate and no fault", pages, e, f)
	}
	return e
}

// withRegions answers an estate whose regions 0 to regions - 1 are there.
func withRegions(t *testing.T, pages, regions int) *Estate {
	t.Helper()
	e := mustNew(t, pages)
	for k := range regions {
		wantOpen(t, e, k)
	}
	return e
}

func wantOpen(t *testing.T, e *Estate, want ...int) {
	t.Helper()
	for i, k := range want {
		if got := e.Open(); got != k {
			t.Errorf("open %d of %v: %d, want %d", i, want, got, k)
		}
	}
}

func wantShut(t *testing.T, e *Estate, want bool, regions ...int) {
	t.Helper()
	for _, k := range regions {
		if got := e.Shut(k); got != want {
			t.Errorf("Shut(%d) = %v, want %v", k, got, want)
		}
	}
}

func wantHas(t *testing.T, e *Estate, want bool, regions ...int) {
	t.Helper()
	for _, k := range regions {
		if got := e.Has(k); got != want {
			t.Errorf("Has(%d) = %v, want %v", k, got, want)
		}
	}
}

func wantGet(t *testing.T, e *Estate, k, n, want int) {
	t.Helper()
	if at, code := e.Get(k, n); at != want || code != 0 {
		t.Errorf("Get(%d, %d) = %d, %d, want %d, 0", k, n, at, code, want)
	}
}

func wantCode(t *testing.T, e *Estate, k, n, want int) {
	t.Helper()
	if at, code := e.Get(k, n); at != 0 || code != want {
		t.Errorf("Get(%d, %d) = %d, %d, want 0, %d", k, n, at, code, want)
	}
}

func wantPages(t *testing.T, e *Estate, k int, want ...int) {
	t.Helper()
	if got := e.Pages(k); !slices.Equal(got, want) {
		t.Errorf("Pages(%d) = %v, want %v", k, got, want)
	}
}

func wantCounts(t *testing.T, e *Estate, regions, free int) {
	t.Helper()
	if got := e.Count(); got != regions {
		t.Errorf("Count() = %d, want %d", got, regions)
	}
	if got := e.Free(); got != free {
		t.Errorf("Free() = %d, want %d", got, free)
	}
}

func wantWord(t *testing.T, e *Estate, at int, want int64) {
	t.Helper()
	if got, ok := e.Load(at); got != want || !ok {
		t.Errorf("Load(%d) = %d, %v, want %d, true", at, got, ok, want)
	}
}

func wantStore(t *testing.T, e *Estate, at int, n int64) {
	t.Helper()
	if !e.Store(at, n) {
		t.Errorf("Store(%d, %d) = false, want true", at, n)
	}
}

// New, and what an Estate does as its pool

func TestNewHasFreePagesAndNoRegions(t *testing.T) {
	for pages := 0; pages <= api.MaxPages; pages++ {
		e := mustNew(t, pages)
		wantCounts(t, e, 0, pages)
		if got := e.Words(); !slices.Equal(got, make([]int64, pages*api.PageWords)) {
			t.Errorf("New(%d): words %v", pages, got)
		}
		for k := range api.MaxRegions {
			wantHas(t, e, false, k)
			wantPages(t, e, k)
		}
	}
}

func TestNewRefusesWhatThePoolRefuses(t *testing.T) {
	want := api.Fault{Code: api.ErrRange, At: -1}
	for _, pages := range []int{-1, -2, api.MaxPages + 1, 1000, math.MinInt, math.MaxInt} {
		if e, f := New(pages); e != nil || f != want {
			t.Errorf("New(%d) = %v, %v, want nil, %v", pages, e, f, want)
		}
	}
}

func TestEstatesShareNothing(t *testing.T) {
	e, other := mustNew(t, 2), mustNew(t, 2)
	wantOpen(t, e, 0)
	wantGet(t, e, 0, 3, 0)
	wantStore(t, e, 1, 9)
	wantCounts(t, other, 0, 2)
	wantWord(t, other, 1, 0)
	wantOpen(t, other, 0)
	wantGet(t, other, 0, 3, 0)
}

func TestWordsAreReachedAsThePools(t *testing.T) {
	e := withRegions(t, 2, 1)
	wantGet(t, e, 0, 2, 0)
	for at := range 2 * api.PageWords {
		wantStore(t, e, at, int64(at)-7)
	}
	words := e.Words()
	if len(words) != 2*api.PageWords {
		t.Fatalf("%d words, want %d", len(words), 2*api.PageWords)
	}
	for at := range words {
		wantWord(t, e, at, int64(at)-7)
		if words[at] != int64(at)-7 {
			t.Errorf("word %d is %d, want %d", at, words[at], at-7)
		}
	}
	words[0] = 50
	wantWord(t, e, 0, -7)
}

func TestNoSuchPlace(t *testing.T) {
	e := withRegions(t, 2, 1)
	wantGet(t, e, 0, 2, 0)
	wantStore(t, e, 0, 3)
	wantStore(t, e, 2*api.PageWords-1, 4)
	ahead := e.Words()
	for _, at := range []int{-1, -api.PageWords, 2 * api.PageWords, 2*api.PageWords + 1, math.MinInt, math.MaxInt} {
		if n, ok := e.Load(at); n != 0 || ok {
			t.Errorf("Load(%d) = %d, %v, want 0, false", at, n, ok)
		}
		if e.Store(at, 5) {
			t.Errorf("Store(%d, 5) = true, want false", at)
		}
	}
	if got := e.Words(); !slices.Equal(got, ahead) {
		t.Errorf("words %v, want %v", got, ahead)
	}
}

// P3.1

func TestOpenAnswersTheLowestNumberThatNoneHas(t *testing.T) {
	e := withRegions(t, 4, 5)
	wantShut(t, e, true, 3, 1)
	wantHas(t, e, true, 0, 2, 4)
	wantHas(t, e, false, 1, 3, 5)
	wantCounts(t, e, 3, 4)
	wantOpen(t, e, 1, 3, 5)
	wantCounts(t, e, 6, 4)
	wantShut(t, e, true, 0)
	wantOpen(t, e, 0, 6)
}

func TestOpenAsOftenAsThereMayBeRegionsAndOnceMore(t *testing.T) {
	e := mustNew(t, 2)
	for k := range api.MaxRegions {
		wantHas(t, e, false, k)
		wantOpen(t, e, k)
		wantHas(t, e, true, k)
		wantPages(t, e, k)
		wantCounts(t, e, k+1, 2)
	}
	wantOpen(t, e, -1, -1)
	wantCounts(t, e, api.MaxRegions, 2)
	wantShut(t, e, true, api.MaxRegions-1)
	wantOpen(t, e, api.MaxRegions-1, -1)
}

func TestRegionsThatAreThereTakeNoPage(t *testing.T) {
	e := mustNew(t, 0)
	for k := range api.MaxRegions {
		wantOpen(t, e, k)
	}
	wantOpen(t, e, -1)
	wantCounts(t, e, api.MaxRegions, 0)
}

func TestARegionOpenedAgainIsNew(t *testing.T) {
	e := withRegions(t, 3, 1)
	wantGet(t, e, 0, 5, 0)
	wantStore(t, e, 2, 9)
	wantShut(t, e, true, 0)
	wantOpen(t, e, 0)
	wantPages(t, e, 0)
	wantCounts(t, e, 1, 3)
	wantGet(t, e, 0, 5, 0)
	wantPages(t, e, 0, 0)
	wantWord(t, e, 2, 0)
}

func TestHasIsFalseOfWhatIsNoNumberOfARegion(t *testing.T) {
	e := withRegions(t, 1, api.MaxRegions)
	wantHas(t, e, false, -1, -2, api.MaxRegions, api.MaxRegions+1, math.MinInt, math.MaxInt)
}

// P3.2

func TestShutGivesPagesBackInTheOrderInWhichTheyCame(t *testing.T) {
	e := withRegions(t, 5, 2)
	wantGet(t, e, 0, 16, 0)
	wantGet(t, e, 1, 16, 16)
	wantGet(t, e, 0, 16, 32)
	wantGet(t, e, 0, 16, 48)
	wantPages(t, e, 0, 0, 2, 3)
	wantShut(t, e, true, 0)
	wantCounts(t, e, 1, 4)
	wantHas(t, e, false, 0)
	wantPages(t, e, 0)
	wantPages(t, e, 1, 1)
	for _, at := range []int{48, 32, 0, 64} {
		wantGet(t, e, 1, 16, at)
	}
	wantPages(t, e, 1, 1, 3, 2, 0, 4)
	wantShut(t, e, true, 1)
	wantOpen(t, e, 0)
	for _, at := range []int{64, 0, 32, 48, 16} {
		wantGet(t, e, 0, 16, at)
	}
	wantCode(t, e, 0, 1, api.ErrFull)
}

func TestShutLeavesTheWordsTillThePageIsTaken(t *testing.T) {
	e := withRegions(t, 2, 2)
	wantGet(t, e, 0, 4, 0)
	wantGet(t, e, 1, 4, 16)
	wantStore(t, e, 3, 8)
	wantStore(t, e, 19, 9)
	wantShut(t, e, true, 0)
	wantWord(t, e, 3, 8)
	wantGet(t, e, 1, 16, 0)
	wantWord(t, e, 3, 0)
	wantWord(t, e, 19, 9)
}

func TestShutOfNoRegionChangesNothing(t *testing.T) {
	e := withRegions(t, 3, 2)
	wantGet(t, e, 0, 4, 0)
	wantGet(t, e, 1, 4, 16)
	wantShut(t, e, false, -1, -2, 2, api.MaxRegions-1, api.MaxRegions, api.MaxRegions+1, math.MinInt, math.MaxInt)
	wantCounts(t, e, 2, 1)
	wantShut(t, e, true, 1)
	wantShut(t, e, false, 1)
	wantCounts(t, e, 1, 2)
	wantPages(t, e, 0, 0)
}

func TestShutOfARegionWithoutPages(t *testing.T) {
	e := withRegions(t, 2, 1)
	wantShut(t, e, true, 0)
	wantShut(t, e, false, 0)
	wantCounts(t, e, 0, 2)
}

// P3.3

func TestGetAsTheExample(t *testing.T) {
	e := withRegions(t, 4, 1)
	wantGet(t, e, 0, 10, 0)
	wantGet(t, e, 0, 7, 16)
	wantGet(t, e, 0, 6, 23)
	wantPages(t, e, 0, 0, 1)
	wantCounts(t, e, 1, 2)
}

func TestGetOfWordsThatJustHaveRoomAndJustHaveNot(t *testing.T) {
	for n := 1; n < api.PageWords; n++ {
		e := withRegions(t, 2, 1)
		wantGet(t, e, 0, n, 0)
		wantGet(t, e, 0, api.PageWords-n, n)
		wantPages(t, e, 0, 0)
		wantGet(t, e, 0, 1, api.PageWords)
		wantPages(t, e, 0, 0, 1)

		e = withRegions(t, 2, 1)
		wantGet(t, e, 0, n, 0)
		wantGet(t, e, 0, api.PageWords-n+1, api.PageWords)
		wantPages(t, e, 0, 0, 1)
	}
}

func TestGetFillsAPageWordByWord(t *testing.T) {
	e := withRegions(t, api.MaxPages, 1)
	for at := range api.MaxPages * api.PageWords {
		wantGet(t, e, 0, 1, at)
	}
	wantCode(t, e, 0, 1, api.ErrFull)
	wantCounts(t, e, 1, 0)
}

func TestWhatIsLeftOfThePageAheadStaysUnused(t *testing.T) {
	e := withRegions(t, 2, 1)
	wantGet(t, e, 0, 2, 0)
	wantGet(t, e, 0, 15, 16)
	wantGet(t, e, 0, 1, 31)
	wantCode(t, e, 0, 1, api.ErrFull)
}

func TestRegionsHaveLastPagesOfTheirOwn(t *testing.T) {
	e := withRegions(t, 4, 3)
	wantGet(t, e, 1, 4, 0)
	wantGet(t, e, 0, 5, 16)
	wantGet(t, e, 1, 4, 4)
	wantGet(t, e, 2, 16, 32)
	wantGet(t, e, 0, 11, 21)
	wantGet(t, e, 1, 8, 8)
	wantGet(t, e, 0, 1, 48)
	wantPages(t, e, 0, 1, 3)
	wantPages(t, e, 1, 0)
	wantPages(t, e, 2, 2)
	wantCounts(t, e, 3, 0)
}

func TestWordsAreNoughtsButForWhatWasStoredSince(t *testing.T) {
	e := withRegions(t, 2, 1)
	wantStore(t, e, 0, 5)
	wantStore(t, e, 9, 6)
	wantGet(t, e, 0, 4, 0)
	wantWord(t, e, 0, 0)
	wantStore(t, e, 6, 7)
	wantGet(t, e, 0, 8, 4)
	for at := 4; at < 12; at++ {
		want := int64(0)
		if at == 6 {
			want = 7
		}
		wantWord(t, e, at, want)
	}
}

func TestGetTellsTheFirstCode(t *testing.T) {
	wrong := []int{0, -1, -16, api.PageWords + 1, 1000, math.MinInt, math.MaxInt}
	for _, pages := range []int{0, 3} {
		e := withRegions(t, pages, 2)
		wantShut(t, e, true, 0)
		for _, k := range []int{-1, 0, 2, api.MaxRegions - 1, api.MaxRegions, math.MinInt, math.MaxInt} {
			wantCode(t, e, k, 1, api.ErrNone)
			for _, n := range wrong {
				wantCode(t, e, k, n, api.ErrNone)
			}
		}
		for _, n := range wrong {
			wantCode(t, e, 1, n, api.ErrRange)
		}
		wantCounts(t, e, 1, pages)
		wantPages(t, e, 1)
	}
}

func TestGetWithoutAPageThatIsFreeChangesNothing(t *testing.T) {
	e := withRegions(t, 2, 3)
	wantGet(t, e, 0, 10, 0)
	wantGet(t, e, 1, 16, 16)
	wantStore(t, e, 3, 8)
	ahead := e.Words()
	wantCode(t, e, 0, 7, api.ErrFull)
	wantCode(t, e, 1, 1, api.ErrFull)
	wantCode(t, e, 2, 1, api.ErrFull)
	wantCounts(t, e, 3, 0)
	wantPages(t, e, 0, 0)
	wantPages(t, e, 1, 1)
	wantPages(t, e, 2)
	if got := e.Words(); !slices.Equal(got, ahead) {
		t.Errorf("words %v, want %v", got, ahead)
	}
	wantGet(t, e, 0, 6, 10)
	wantShut(t, e, true, 1)
	wantGet(t, e, 2, 1, 16)
}

func TestGetOfAnEstateWithoutPages(t *testing.T) {
	e := withRegions(t, 0, 1)
	wantCode(t, e, 0, 1, api.ErrFull)
	wantCode(t, e, 0, 16, api.ErrFull)
	wantPages(t, e, 0)
	wantShut(t, e, true, 0)
}

func TestPagesAreNewMemory(t *testing.T) {
	e := withRegions(t, 3, 1)
	wantGet(t, e, 0, 16, 0)
	wantGet(t, e, 0, 16, 16)
	pages := e.Pages(0)
	pages[0] = 7
	_ = append(pages[:1], 9)
	wantPages(t, e, 0, 0, 1)
	wantGet(t, e, 0, 16, 32)
	wantShut(t, e, true, 0)
	if !slices.Equal(pages, []int{7, 9}) {
		t.Errorf("pages answered earlier are %v, want [7 9]", pages)
	}
}

func TestPagesOfNoRegion(t *testing.T) {
	e := withRegions(t, 3, 2)
	wantGet(t, e, 0, 16, 0)
	wantShut(t, e, true, 0)
	for _, k := range []int{-1, 0, 2, api.MaxRegions, math.MinInt, math.MaxInt} {
		wantPages(t, e, k)
	}
}

// got is what one Get answered.
type got struct{ region, at, n int }

// plain is the chapter's own words: what was got of each region is told anew from all that was ever got.
type plain struct {
	words []int64
	free  []int // the page that goes out next is the last
	there map[int]bool
	pages map[int][]int
	got   []got
}

func newPlain(pages int) *plain {
	m := &plain{words: make([]int64, pages*api.PageWords), there: map[int]bool{}, pages: map[int][]int{}}
	for k := pages - 1; k >= 0; k-- {
		m.free = append(m.free, k)
	}
	return m
}

func (m *plain) open() int {
	for k := range api.MaxRegions {
		if !m.there[k] {
			m.there[k] = true
			return k
		}
	}
	return -1
}

func (m *plain) shut(k int) bool {
	if !m.there[k] {
		return false
	}
	m.free = append(m.free, m.pages[k]...)
	m.got = slices.DeleteFunc(m.got, func(g got) bool { return g.region == k })
	delete(m.there, k)
	delete(m.pages, k)
	return true
}

func (m *plain) get(k, n int) (int, int) {
	if !m.there[k] {
		return 0, api.ErrNone
	}
	if n < 1 || n > api.PageWords {
		return 0, api.ErrRange
	}
	at, end := 0, 0
	if mine := m.pages[k]; len(mine) > 0 {
		at = mine[len(mine)-1] * api.PageWords
		end = at + api.PageWords
		for _, g := range m.got {
			if g.region == k && g.at >= at && g.at < end {
				at = g.at + g.n
			}
		}
	}
	if at+n > end {
		if len(m.free) == 0 {
			return 0, api.ErrFull
		}
		page := m.free[len(m.free)-1]
		m.free = m.free[:len(m.free)-1]
		m.pages[k] = append(m.pages[k], page)
		at = page * api.PageWords
		clear(m.words[at : at+api.PageWords])
	}
	m.got = append(m.got, got{k, at, n})
	return at, 0
}

func TestLongRunsAreAsThePlainEstate(t *testing.T) {
	for seed := range int64(80) {
		r := rand.New(rand.NewSource(seed))
		pages := r.Intn(24)
		e, m := mustNew(t, pages), newPlain(pages)
		for step := range 300 {
			if !sameStep(r, e, m) || !sameLook(e, m) {
				t.Fatalf("seed %d, step %d: estate and plain estate differ", seed, step)
			}
		}
	}
}

func sameStep(r *rand.Rand, e *Estate, m *plain) bool {
	k := r.Intn(api.MaxRegions+3) - 1
	switch r.Intn(10) {
	case 0, 1:
		return e.Open() == m.open()
	case 2:
		return e.Shut(k) == m.shut(k)
	case 3, 4:
		at, n := r.Intn(len(m.words)+2)-1, r.Int63()
		place := at >= 0 && at < len(m.words)
		if place {
			m.words[at] = n
		}
		return e.Store(at, n) == place
	}
	n := r.Intn(api.PageWords+4) - 1
	at, code := e.Get(k, n)
	wantAt, wantCode := m.get(k, n)
	return at == wantAt && code == wantCode
}

func sameLook(e *Estate, m *plain) bool {
	for k := -1; k <= api.MaxRegions; k++ {
		if e.Has(k) != m.there[k] || !slices.Equal(e.Pages(k), m.pages[k]) {
			return false
		}
	}
	return e.Count() == len(m.there) && e.Free() == len(m.free) && slices.Equal(e.Words(), m.words)
}

// What is got is apart

func TestWhatIsGotIsApart(t *testing.T) {
	for seed := range int64(80) {
		r := rand.New(rand.NewSource(1000 + seed))
		e := mustNew(t, 1+r.Intn(api.MaxPages))
		var all []got
		for range 400 {
			all = stepOfGets(r, e, all)
			if !apart(e, all) {
				t.Fatalf("seed %d: %v is not apart", seed, all)
			}
		}
	}
}

func stepOfGets(r *rand.Rand, e *Estate, all []got) []got {
	k, n := r.Intn(api.MaxRegions), 1+r.Intn(api.PageWords)
	switch r.Intn(8) {
	case 0:
		e.Open()
	case 1:
		if e.Shut(k) {
			all = slices.DeleteFunc(all, func(g got) bool { return g.region == k })
		}
	default:
		if at, code := e.Get(k, n); code == 0 {
			all = append(all, got{k, at, n})
		}
	}
	return all
}

// apart is the promise itself: no place is got twice, and each lies in a page of its region.
func apart(e *Estate, all []got) bool {
	seen := make([]bool, len(e.Words()))
	for _, g := range all {
		pages := e.Pages(g.region)
		for at := g.at; at < g.at+g.n; at++ {
			if at < 0 || at >= len(seen) || seen[at] || !slices.Contains(pages, at/api.PageWords) {
				return false
			}
			seen[at] = true
		}
	}
	return true
}
