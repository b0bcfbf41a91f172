package heap

import (
	"math"
	"math/rand"
	"slices"
	"testing"

	"copyhold/api"
)

// plain is the chapter's own words: all regions that ever were are kept, and what is left is counted anew each time.
type plain struct {
	pages   int
	regions []plainRegion
}

type plainRegion struct {
	gone   bool
	things []plainThing
}

type plainThing struct {
	kind  int
	parts []Val
}

func (x plainThing) words() int {
	if x.kind == VArray {
		return 1 + len(x.parts)
	}
	if len(x.parts) == 0 {
		return 1
	}
	return len(x.parts)
}

// taken counts the pages of a region by going through its things, from the first one on.
func (r plainRegion) taken() int {
	var pages []int
	for _, x := range r.things {
		last := len(pages) - 1
		if last < 0 || pages[last]+x.words() > api.PageWords {
			pages = append(pages, x.words())
		} else {
			pages[last] += x.words()
		}
	}
	return len(pages)
}

func (p *plain) left() int {
	n := p.pages
	for _, r := range p.regions {
		if !r.gone {
			n -= r.taken()
		}
	}
	return n
}

func (p *plain) live() int {
	n := 0
	for _, r := range p.regions {
		if !r.gone {
			n++
		}
	}
	return n
}

func (p *plain) there(r int) bool {
	for k, x := range p.regions {
		if k == r {
			return !x.gone
		}
	}
	return false
}

func (p *plain) open() (Val, bool) {
	if p.live() >= api.MaxRegions {
		return Val{}, false
	}
	p.regions = append(p.regions, plainRegion{})
	return handle(len(p.regions) - 1), true
}

func (p *plain) shut(v Val) bool {
	if v.Kind != VHandle || !p.there(v.Region) {
		return false
	}
	p.regions[v.Region].gone = true
	return true
}

// thing makes it first, and takes it back where there were not enough pages for it.
func (p *plain) thing(v Val, x plainThing) (Val, int) {
	if v.Kind != VHandle || !p.there(v.Region) {
		return Val{}, api.ErrStuck
	}
	r := &p.regions[v.Region]
	ahead, left := r.taken(), p.left()
	r.things = append(r.things, x)
	if r.taken() > ahead && left < 1 {
		r.things = r.things[:len(r.things)-1]
		return Val{}, api.ErrFull
	}
	return Val{Kind: x.kind, Region: v.Region, Thing: len(r.things) - 1}, 0
}

func (p *plain) tuple(v Val, l []Val) (Val, int) {
	return p.thing(v, plainThing{VTuple, slices.Clone(l)})
}

func (p *plain) array(v Val, n int) (Val, int) {
	if n < 0 || n > api.MaxArray {
		return Val{}, api.ErrRange
	}
	return p.thing(v, plainThing{VArray, noughts(n)})
}

// find answers the thing that a value is, nil if it is none.
func (p *plain) find(v Val) *plainThing {
	if v.Kind != VTuple && v.Kind != VArray || !p.there(v.Region) {
		return nil
	}
	things := p.regions[v.Region].things
	for k := range things {
		if k == v.Thing && things[k].kind == v.Kind {
			return &things[k]
		}
	}
	return nil
}

func (p *plain) get(v Val, k int64) (Val, int) {
	x := p.find(v)
	if x == nil {
		return Val{}, api.ErrStuck
	}
	for i, part := range x.parts {
		if int64(i) == k {
			return part, 0
		}
	}
	return Val{}, api.ErrRange
}

func (p *plain) set(v Val, k int64, y Val) int {
	x := p.find(v)
	if x == nil || x.kind == VArray && y.Kind != VInt {
		return api.ErrStuck
	}
	for i := range x.parts {
		if int64(i) == k {
			x.parts[i] = y
			return 0
		}
	}
	return api.ErrRange
}

func (p *plain) len(v Val) (int, int) {
	x := p.find(v)
	if x == nil {
		return 0, api.ErrStuck
	}
	return len(x.parts), 0
}

// run asks a heap and the plain form the same; known are the values that were answered so far.
type run struct {
	*rand.Rand
	h     *Heap
	p     *plain
	known []Val
	// Pages of great runs are soon taken if regions are seldom shut; which of the two is drawn for each run.
	shuts int
}

func newRun(seed int64) *run {
	r := rand.New(rand.NewSource(seed))
	pages := []int{0, 1, 2, 5, 20, api.MaxPages, 1000, -2}[r.Intn(8)]
	return &run{Rand: r, h: New(pages), p: &plain{pages: pages}, shuts: r.Intn(4)}
}

func (r *run) number() int {
	if r.Intn(8) == 0 {
		return []int{-1, math.MinInt, math.MaxInt, 1 << 32, 16, 99}[r.Intn(6)]
	}
	return r.Intn(12)
}

// odd answers a value that need not be one of anything that is there.
func (r *run) odd() Val {
	switch r.Intn(6) {
	case 0:
		return num(int64(r.number()))
	case 1:
		return handle(r.number())
	case 2:
		return tuple(r.number(), r.number())
	case 3:
		return array(r.number(), r.number())
	}
	return Val{Kind: r.Intn(9) - 2}
}

func (r *run) value() Val {
	if len(r.known) == 0 || r.Intn(5) == 0 {
		return r.odd()
	}
	// The later ones are more often those of regions that are there still.
	back := min(r.Intn(len(r.known)), r.Intn(len(r.known)))
	return r.known[len(r.known)-1-back]
}

// kind answers a value of a kind, if a few tries find one.
func (r *run) kind(kinds ...int) Val {
	v := r.value()
	for range 10 {
		if slices.Contains(kinds, v.Kind) {
			return v
		}
		v = r.value()
	}
	return v
}

func (r *run) values() []Val {
	n := r.Intn(10)
	if r.Intn(10) == 0 {
		n = r.Intn(3 * api.PageWords)
	}
	var list []Val
	for range n {
		list = append(list, r.value())
	}
	return list
}

func (r *run) know(v Val, ok bool) {
	if ok {
		r.known = append(r.known, v)
	}
}

// same is a step of both; false if they differ.
func (r *run) same() bool {
	switch r.Intn(8) {
	case 0:
		v, ok := r.h.Open()
		r.know(v, ok)
		w, fine := r.p.open()
		return v == w && ok == fine
	case 1:
		if r.Intn(4) > r.shuts {
			return true
		}
		v := r.kind(VHandle)
		return r.h.Shut(v) == r.p.shut(v)
	case 2, 3:
		v, l := r.kind(VHandle), r.values()
		w, code := r.p.tuple(v, l)
		got, e := r.h.Tuple(v, l)
		clear(l)
		r.know(got, e == 0)
		return got == w && e == code
	case 4:
		v, n := r.kind(VHandle), r.Intn(api.MaxArray+4)-1
		got, e := r.h.Array(v, n)
		r.know(got, e == 0)
		w, code := r.p.array(v, n)
		return got == w && e == code
	case 5:
		v, k := r.kind(VTuple, VArray), int64(r.number())
		got, e := r.h.Get(v, k)
		w, code := r.p.get(v, k)
		return got == w && e == code
	case 6:
		v, k, x := r.kind(VTuple, VArray), int64(r.number()), r.value()
		if r.Intn(2) == 0 {
			x = num(r.Int63())
		}
		return r.h.Set(v, k, x) == r.p.set(v, k, x)
	}
	v := r.kind(VTuple, VArray)
	n, e := r.h.Len(v)
	w, code := r.p.len(v)
	return n == w && e == code
}

func (r *run) wantState(t *testing.T) {
	t.Helper()
	wantCounts(t, r.h, r.p.left(), r.p.live())
}

// wantAll looks at each thing that ever was, and one further of each region.
func (r *run) wantAll(t *testing.T) {
	t.Helper()
	for k, region := range r.p.regions {
		for i, x := range region.things {
			v := Val{Kind: x.kind, Region: k, Thing: i}
			if region.gone {
				wantLen(t, r.h, v, 0, api.ErrStuck)
				wantGetCode(t, r.h, v, 0, api.ErrStuck)
			} else {
				wantParts(t, r.h, v, x.parts...)
			}
		}
		wantStuck(t, r.h, tuple(k, len(region.things)), array(k, len(region.things)))
	}
}

func TestLongRunsAreAsThePlainOnes(t *testing.T) {
	for seed := range int64(150) {
		r := newRun(seed)
		for step := range 400 {
			if !r.same() {
				t.Fatalf("seed %d, step %d: heap and plain heap differ", seed, step)
			}
			r.wantState(t)
		}
		r.wantAll(t)
		if t.Failed() {
			t.Fatalf("seed %d: heap and plain heap differ", seed)
		}
	}
}

// What is answered hangs on what was asked alone: the same run again tells the same.
func TestTheSameRunTwiceIsTheSame(t *testing.T) {
	for seed := range int64(20) {
		a, b := newRun(seed), newRun(seed)
		for range 300 {
			a.same()
			b.same()
		}
		if !slices.Equal(a.known, b.known) || a.h.Pages() != b.h.Pages() || a.h.Live() != b.h.Live() {
			t.Errorf("seed %d: the same run twice differs", seed)
		}
	}
}
