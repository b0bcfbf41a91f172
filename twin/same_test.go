package twin

import (
	"slices"
	"testing"

	"copyhold/api"
)

// Same

func wantSame(t *testing.T, a, b api.Outcome, want bool) {
	t.Helper()
	if Same(a, b) != want || Same(b, a) != want {
		t.Errorf("Same(%#v, %#v) = %v, the other way round %v, want %v", a, b, Same(a, b), Same(b, a), want)
	}
}

func anOutcome() api.Outcome {
	return api.Outcome{End: api.EndIndex, Back: []int64{1, 2, 3}, Out: []int64{4, 5, 6}, Fuel: 7}
}

func TestSameOfTheSame(t *testing.T) {
	wantSame(t, anOutcome(), anOutcome(), true)
	wantSame(t, api.Outcome{}, api.Outcome{}, true)
	wantSame(t, api.Outcome{Fuel: 3}, api.Outcome{Fuel: 3}, true)
	wantSame(t, api.Outcome{Out: []int64{0}}, api.Outcome{Out: []int64{0}}, true)
	o := anOutcome()
	wantSame(t, o, o, true)
}

func TestSameOfWhatDiffersInOneThing(t *testing.T) {
	for what, change := range map[string]func(o *api.Outcome){
		"End":                            func(o *api.Outcome) { o.End++ },
		"End, which no run has":          func(o *api.Outcome) { o.End = -1 },
		"Fuel":                           func(o *api.Outcome) { o.Fuel++ },
		"Fuel, one less":                 func(o *api.Outcome) { o.Fuel-- },
		"no End":                         func(o *api.Outcome) { o.End = 0 },
		"no Fuel":                        func(o *api.Outcome) { o.Fuel = 0 },
		"no Back":                        func(o *api.Outcome) { o.Back = nil },
		"no Out":                         func(o *api.Outcome) { o.Out = nil },
		"an empty Back":                  func(o *api.Outcome) { o.Back = []int64{} },
		"an empty Out":                   func(o *api.Outcome) { o.Out = []int64{} },
		"Back and Out":                   func(o *api.Outcome) { o.Back, o.Out = o.Out, o.Back },
		"a number of Back more":          func(o *api.Outcome) { o.Back = append(o.Back, 0) },
		"a number of Out more":           func(o *api.Outcome) { o.Out = append(o.Out, 0) },
		"the first of Back goes":         func(o *api.Outcome) { o.Back = o.Back[1:] },
		"the last of Back goes":          func(o *api.Outcome) { o.Back = o.Back[:2] },
		"the first of Out goes":          func(o *api.Outcome) { o.Out = o.Out[1:] },
		"the last of Out goes":           func(o *api.Outcome) { o.Out = o.Out[:2] },
		"Back in another order":          func(o *api.Outcome) { slices.Reverse(o.Back) },
		"Out in another order":           func(o *api.Outcome) { slices.Reverse(o.Out) },
		"a number goes from Back to Out": func(o *api.Outcome) { o.Back, o.Out = o.Back[:2], []int64{3, 4, 5, 6} },
		"End and Fuel trade places":      func(o *api.Outcome) { o.End, o.Fuel = o.Fuel, o.End },
	} {
		o := anOutcome()
		change(&o)
		if Same(o, anOutcome()) || Same(anOutcome(), o) {
			t.Errorf("%s: %v and %v are the same", what, o, anOutcome())
		}
	}
	for i := range 3 {
		for _, n := range []int64{-1, 0, 99, 1 << 32} {
			a, b := anOutcome(), anOutcome()
			a.Back[i] += n + 1<<40
			b.Out[i] += n + 1<<40
			wantSame(t, a, anOutcome(), false)
			wantSame(t, b, anOutcome(), false)
			wantSame(t, a, b, false)
		}
	}
}

func TestSameOfNoListAndAnEmptyOne(t *testing.T) {
	lists := [][]int64{nil, {}, make([]int64, 0, 9), make([]int64, 5)[:0]}
	for _, a := range lists {
		for _, b := range lists {
			wantSame(t, api.Outcome{Back: a, Out: b, Fuel: 1}, api.Outcome{Back: b, Out: a, Fuel: 1}, true)
		}
		wantSame(t, api.Outcome{Back: a}, api.Outcome{Back: []int64{0}}, false)
		wantSame(t, api.Outcome{Out: a}, api.Outcome{Out: []int64{0}}, false)
	}
}

func TestSameReadsNothingBehindALength(t *testing.T) {
	a, b := []int64{1, 2, 3}, []int64{1, 2, 4}
	wantSame(t, api.Outcome{Back: a[:2]}, api.Outcome{Back: b[:2]}, true)
	wantSame(t, api.Outcome{Out: a[:2]}, api.Outcome{Out: b[:2]}, true)
	wantSame(t, api.Outcome{Out: a[:2]}, api.Outcome{Out: a}, false)
}

func TestSameChangesNothing(t *testing.T) {
	a, b := anOutcome(), anOutcome()
	b.Back[2] = 9
	Same(a, b)
	if told(a) != told(anOutcome()) || !slices.Equal(b.Back, []int64{1, 2, 9}) {
		t.Errorf("changed: %v, %v", a, b)
	}
}

func TestSameOfLongOnes(t *testing.T) {
	long := func() api.Outcome {
		return api.Outcome{Out: make([]int64, api.MaxOutput), Back: make([]int64, api.MaxParams)}
	}
	wantSame(t, long(), long(), true)
	for _, at := range []int{0, 1, api.MaxOutput / 2, api.MaxOutput - 1} {
		o := long()
		o.Out[at] = 1
		wantSame(t, o, long(), false)
	}
}
