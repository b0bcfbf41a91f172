package pool

import (
	"math"
	"math/rand"
	"slices"
	"testing"

	"copyhold/api"
)

func mustNew(t *testing.T, pages int) *Pool {
	t.Helper()
	p, f := New(pages)
	if p == nil || f != (api.Fault{}) {
		t.Fatalf("New(%d) = %v, %v, want a pool and no fault", pages, p, f)
	}
	return p
}

func wantTakes(t *testing.T, p *Pool, want ...int) {
	t.Helper()
	for i, k := range want {
		if got := p.Take(); got != k {
			t.Errorf("take %d of %v: %d, want %d", i, want, got, k)
		}
	}
}

func wantGives(t *testing.T, p *Pool, want bool, pages ...int) {
	t.Helper()
	for _, k := range pages {
		if got := p.Give(k); got != want {
			t.Errorf("Give(%d) = %v, want %v", k, got, want)
		}
	}
}

func wantFree(t *testing.T, p *Pool, want int) {
	t.Helper()
	if got := p.Free(); got != want {
		t.Errorf("Free() = %d, want %d", got, want)
	}
}

func wantWord(t *testing.T, p *Pool, at int, want int64) {
	t.Helper()
	if got, ok := p.Load(at); got != want || !ok {
		t.Errorf("Load(%d) = %d, %v, want %d, true", at, got, ok, want)
	}
}

func wantStore(t *testing.T, p *Pool, at int, n int64) {
	t.Helper()
	if !p.Store(at, n) {
		t.Errorf("Store(%d, %d) = false, want true", at, n)
	}
}

// P2.1

func TestNewHasPagesThatAreFreeAndWordsThatAreNought(t *testing.T) {
	for pages := 0; pages <= api.MaxPages; pages++ {
		p := mustNew(t, pages)
		wantFree(t, p, pages)
		if got := p.Words(); !slices.Equal(got, make([]int64, pages*api.PageWords)) {
			t.Errorf("New(%d): words %v", pages, got)
		}
	}
}

func TestNewRefusesOtherNumbersOfPages(t *testing.T) {
	want := api.Fault{Code: api.ErrRange, At: -1}
	for _, pages := range []int{-1, -2, api.MaxPages + 1, 1000, math.MinInt, math.MaxInt} {
		if p, f := New(pages); p != nil || f != want {
			t.Errorf("New(%d) = %v, %v, want nil, %v", pages, p, f, want)
		}
	}
}

func TestPoolsShareNothing(t *testing.T) {
	p, q := mustNew(t, 2), mustNew(t, 2)
	wantTakes(t, p, 0)
	wantStore(t, p, 3, 9)
	wantFree(t, q, 2)
	wantWord(t, q, 3, 0)
	wantTakes(t, q, 0)
}

func TestNoPageAtAll(t *testing.T) {
	p := mustNew(t, 0)
	wantTakes(t, p, -1, -1)
	wantGives(t, p, false, -1, 0, 1)
	wantFree(t, p, 0)
	if n, ok := p.Load(0); n != 0 || ok {
		t.Errorf("Load(0) = %d, %v, want 0, false", n, ok)
	}
	if p.Store(0, 1) {
		t.Error("Store(0, 1) = true, want false")
	}
	if got := p.Words(); len(got) != 0 {
		t.Errorf("Words() = %v, want none", got)
	}
}

// P2.2

func TestTakeGoesUpFromTheLowest(t *testing.T) {
	p := mustNew(t, api.MaxPages)
	for k := range api.MaxPages {
		wantTakes(t, p, k)
		wantFree(t, p, api.MaxPages-1-k)
	}
	wantTakes(t, p, -1, -1)
	wantFree(t, p, 0)
}

func TestTakeAnswersWhatWasGivenBackLast(t *testing.T) {
	p := mustNew(t, 2)
	wantTakes(t, p, 0, 1, -1)
	wantGives(t, p, true, 0, 1)
	wantTakes(t, p, 1, 0, -1)
	wantGives(t, p, true, 1, 0)
	wantTakes(t, p, 0, 1, -1)
}

func TestPagesGivenBackGoAheadOfThoseNeverTaken(t *testing.T) {
	p := mustNew(t, 6)
	wantTakes(t, p, 0, 1, 2, 3)
	wantGives(t, p, true, 2, 0, 3)
	wantTakes(t, p, 3)
	wantGives(t, p, true, 1)
	wantTakes(t, p, 1, 0, 2, 4)
	wantGives(t, p, true, 4)
	wantTakes(t, p, 4, 5, -1)
}

func TestTakeWipesThatPageAlone(t *testing.T) {
	p := mustNew(t, 3)
	wantTakes(t, p, 0, 1, 2)
	for at := range 3 * api.PageWords {
		wantStore(t, p, at, int64(at)+1)
	}
	wantGives(t, p, true, 1)
	wantTakes(t, p, 1)
	for at := range 3 * api.PageWords {
		want := int64(at) + 1
		if at/api.PageWords == 1 {
			want = 0
		}
		wantWord(t, p, at, want)
	}
}

func TestTakeWipesAPageThatWasNeverTaken(t *testing.T) {
	p := mustNew(t, 2)
	wantStore(t, p, 0, 5)
	wantStore(t, p, api.PageWords-1, 6)
	wantStore(t, p, api.PageWords, 7)
	wantTakes(t, p, 0)
	wantWord(t, p, 0, 0)
	wantWord(t, p, api.PageWords-1, 0)
	wantWord(t, p, api.PageWords, 7)
}

func TestTakeOfNoneLeavesTheWords(t *testing.T) {
	p := mustNew(t, 1)
	wantTakes(t, p, 0)
	wantStore(t, p, 0, 5)
	wantStore(t, p, api.PageWords-1, 6)
	wantTakes(t, p, -1)
	wantWord(t, p, 0, 5)
	wantWord(t, p, api.PageWords-1, 6)
}

// P2.3

func TestGiveFreesAPage(t *testing.T) {
	p := mustNew(t, 3)
	wantTakes(t, p, 0, 1, 2)
	wantGives(t, p, true, 1)
	wantFree(t, p, 1)
	wantGives(t, p, true, 0, 2)
	wantFree(t, p, 3)
}

func TestGiveLeavesTheWords(t *testing.T) {
	p := mustNew(t, 2)
	wantTakes(t, p, 0, 1)
	wantStore(t, p, api.PageWords, 5)
	wantStore(t, p, 2*api.PageWords-1, 6)
	wantGives(t, p, true, 1)
	wantWord(t, p, api.PageWords, 5)
	wantWord(t, p, 2*api.PageWords-1, 6)
	wantTakes(t, p, 1)
	wantWord(t, p, api.PageWords, 0)
	wantWord(t, p, 2*api.PageWords-1, 0)
}

func TestGiveRefusesWhatIsNoTakenPage(t *testing.T) {
	p := mustNew(t, 4)
	wantTakes(t, p, 0, 1)
	wantGives(t, p, false, -1, 2, 3, 4, 5, math.MinInt, math.MaxInt)
	wantFree(t, p, 2)
	wantGives(t, p, true, 0)
	wantGives(t, p, false, 0)
	wantFree(t, p, 3)
	wantGives(t, p, true, 1)
	wantGives(t, p, false, 0, 1)
	wantFree(t, p, 4)
	wantTakes(t, p, 1, 0, 2, 3, -1)
}

// P2.4

func TestEachPlaceHasAWordOfItsOwn(t *testing.T) {
	p := mustNew(t, api.MaxPages)
	all := api.MaxPages * api.PageWords
	for at := range all {
		wantStore(t, p, at, int64(at)-7)
	}
	words := p.Words()
	if len(words) != all {
		t.Fatalf("%d words, want %d", len(words), all)
	}
	for at := range all {
		wantWord(t, p, at, int64(at)-7)
		if words[at] != int64(at)-7 {
			t.Errorf("word %d is %d, want %d", at, words[at], at-7)
		}
	}
}

func TestWordsHoldTheLeastAndTheGreatest(t *testing.T) {
	p := mustNew(t, 1)
	wantStore(t, p, 0, math.MinInt64)
	wantStore(t, p, 1, math.MaxInt64)
	wantWord(t, p, 0, math.MinInt64)
	wantWord(t, p, 1, math.MaxInt64)
	wantStore(t, p, 0, 1)
	wantWord(t, p, 0, 1)
}

func TestFreePagesHaveWordsToo(t *testing.T) {
	p := mustNew(t, 2)
	wantStore(t, p, api.PageWords, 8)
	wantWord(t, p, api.PageWords, 8)
	wantFree(t, p, 2)
	wantTakes(t, p, 0)
	wantGives(t, p, true, 0)
	wantStore(t, p, 0, 9)
	wantWord(t, p, 0, 9)
}

func TestNoSuchPlace(t *testing.T) {
	p := mustNew(t, 2)
	last := 2*api.PageWords - 1
	wantStore(t, p, 0, 3)
	wantStore(t, p, last, 4)
	ahead := p.Words()
	for _, at := range []int{-1, -api.PageWords, last + 1, last + 2, math.MinInt, math.MaxInt} {
		if n, ok := p.Load(at); n != 0 || ok {
			t.Errorf("Load(%d) = %d, %v, want 0, false", at, n, ok)
		}
		if p.Store(at, 5) {
			t.Errorf("Store(%d, 5) = true, want false", at)
		}
	}
	if got := p.Words(); !slices.Equal(got, ahead) {
		t.Errorf("words %v, want %v", got, ahead)
	}
}

func TestWordsAreNewMemory(t *testing.T) {
	p := mustNew(t, 1)
	wantStore(t, p, 2, 5)
	words := p.Words()
	words[2] = 6
	wantWord(t, p, 2, 5)
	again := p.Words()
	wantStore(t, p, 2, 7)
	if again[2] != 5 || words[2] != 6 {
		t.Errorf("words answered earlier are %d and %d, want 5 and 6", again[2], words[2])
	}
}

// plain is the chapter's own words: every page has a number that tells when it was given back, 0 if it never was.
type plain struct {
	words []int64
	taken []bool
	given []int
	turn  int
}

func (m *plain) take() int {
	best := -1
	for k := range m.taken {
		if !m.taken[k] && (best < 0 || m.given[k] > m.given[best]) {
			best = k
		}
	}
	if best < 0 {
		return -1
	}
	m.taken[best] = true
	for i := range api.PageWords {
		m.words[best*api.PageWords+i] = 0
	}
	return best
}

func (m *plain) give(k int) bool {
	if k < 0 || k >= len(m.taken) || !m.taken[k] {
		return false
	}
	m.turn++
	m.taken[k], m.given[k] = false, m.turn
	return true
}

func (m *plain) free() int {
	n := 0
	for _, taken := range m.taken {
		if !taken {
			n++
		}
	}
	return n
}

func TestLongRunsAreAsThePlainPool(t *testing.T) {
	for seed := range int64(60) {
		r := rand.New(rand.NewSource(seed))
		pages := r.Intn(9)
		p := mustNew(t, pages)
		m := &plain{words: make([]int64, pages*api.PageWords), taken: make([]bool, pages), given: make([]int, pages)}
		for step := range 400 {
			if !sameStep(r, p, m) {
				t.Fatalf("seed %d, step %d: pool and plain pool differ", seed, step)
			}
		}
	}
}

func sameStep(r *rand.Rand, p *Pool, m *plain) bool {
	at := r.Intn(len(m.words)+4) - 2
	place := at >= 0 && at < len(m.words)
	same := true
	switch r.Intn(3) {
	case 0:
		same = p.Take() == m.take()
	case 1:
		k := r.Intn(len(m.taken)+2) - 1
		same = p.Give(k) == m.give(k)
	case 2:
		n := r.Int63()
		same = p.Store(at, n) == place
		if place {
			m.words[at] = n
		}
	}
	n, ok := p.Load(at)
	if ok != place || place && n != m.words[at] || !place && n != 0 {
		return false
	}
	return same && p.Free() == m.free() && slices.Equal(p.Words(), m.words)
}
