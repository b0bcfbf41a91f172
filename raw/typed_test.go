package raw

import (
	"math/rand"
	"slices"
	"testing"

	"copyhold/api"
	"copyhold/judge"
	"copyhold/sample"
	"copyhold/verify"
)

// What a word stands for only its type tells: a judge goes along with each call that is open, and all words are read by what it knows.

type typed struct {
	*Machine
	judges  []*judge.State
	numbers []map[int]int64 // of each call's regions, as its handles tell
	sizes   map[int64]int   // of the things, by their places
	things  int             // that were read in all
}

func (x *typed) begin(t *testing.T, c *frame) {
	t.Helper()
	s, fault := judge.New(x.module, c.f, c.b)
	if fault.Code != 0 {
		t.Fatalf("no judge of the block %d of the function %d: %v", c.b, c.f, fault)
	}
	x.judges = append(x.judges, s)
}

// goOn is a step, and the judges go along with it.
func (x *typed) goOn(t *testing.T) {
	t.Helper()
	c := x.top()
	code, at, depth := x.module.Funcs[c.f].Blocks[c.b].Code, c.next, len(x.calls)
	x.Step()
	if x.Done() {
		return
	}
	if at == len(code) {
		x.judges = x.judges[:depth-1]
	} else if told := x.judges[depth-1].Ins(code[at]); told != 0 {
		t.Fatalf("the judge tells %d", told)
	}
	if len(x.calls) > len(x.judges) {
		x.begin(t, x.top())
	}
}

// readAll reads what the calls that are open may still reach.
func (x *typed) readAll(t *testing.T) {
	t.Helper()
	x.numbers, x.sizes = nil, map[int64]int{}
	for i, c := range x.calls {
		s := x.judges[i]
		x.numbers = append(x.numbers, map[int]int64{})
		list := s.Types()
		// of a caller the judge is ahead: it knows what the call will make
		for k, n := range c.values {
			x.readHandles(t, i, list[k], n)
		}
		for k, n := range c.values {
			x.read(t, i, list[k], n)
		}
	}
}

// readHandles: a region has one number, in whatever handle it stands, and no two have the same.
func (x *typed) readHandles(t *testing.T, call int, u api.Type, n int64) {
	t.Helper()
	if u.Kind == api.TInt || !x.judges[call].Has(u.R) {
		return
	}
	for k, field := range u.L {
		x.readHandles(t, call, field, x.word(n+int64(k)))
	}
	if u.Kind != api.THandle {
		return
	}
	if !x.Has(int(n)) {
		t.Fatalf("the region %d has the number %d, which none has", u.R, n)
	}
	for r, number := range x.numbers[call] {
		if (r == u.R) != (number == n) {
			t.Fatalf("the region %d has the number %d, the region %d has %d", r, number, u.R, n)
		}
	}
	x.numbers[call][u.R] = n
}

func (x *typed) read(t *testing.T, call int, u api.Type, n int64) {
	t.Helper()
	if u.Kind == api.TInt || u.Kind == api.THandle || !x.judges[call].Has(u.R) {
		return
	}
	size := max(1, len(u.L))
	if u.Kind == api.TArray {
		size = 1 + int(x.word(n))
	}
	x.readThing(t, call, u.R, n, size)
	for k, field := range u.L {
		x.read(t, call, field, x.word(n+int64(k)))
	}
}

// readThing: a thing lies within a page of its region.
func (x *typed) readThing(t *testing.T, call, r int, n int64, size int) {
	t.Helper()
	if known, ok := x.sizes[n]; ok && known != size {
		t.Fatalf("at %d there are %d words, and %d", n, known, size)
	}
	x.sizes[n] = size
	x.things++
	first, last := int(n)/api.PageWords, (int(n)+size-1)/api.PageWords
	if n < 0 || size < 1 || first != last {
		t.Fatalf("%d words from %d on are not within a page", size, n)
	}
	if number, ok := x.numbers[call][r]; ok && !slices.Contains(x.Pages(int(number)), first) {
		t.Fatalf("what is of the region %d lies at %d, of its pages %v", number, n, x.Pages(int(number)))
	}
}

// wantApart: no two things have a word in common.
func (x *typed) wantApart(t *testing.T) {
	t.Helper()
	owner := make([]int64, len(x.Words()))
	for at, size := range x.sizes {
		for k := range size {
			if was := owner[int(at)+k]; was != 0 {
				t.Fatalf("the word %d is of the thing at %d, and of that at %d", int(at)+k, was-1, at)
			}
			owner[int(at)+k] = at + 1
		}
	}
}

func TestWordsAreWhatTheirTypesTell(t *testing.T) {
	things := 0
	for seed := range int64(1500) {
		r := rand.New(rand.NewSource(seed))
		m := sample.New(r.Intn).Module()
		if verify.Check(m).Code != 0 {
			continue
		}
		x := &typed{Machine: begun(t, m, comesIn(r), r.Intn(120), 1+r.Intn(6))}
		x.begin(t, x.top())
		for !x.Done() {
			x.readAll(t)
			x.wantApart(t)
			x.goOn(t)
		}
		things += x.things
	}
	if things < 10000 {
		t.Errorf("%d things alone were read", things)
	}
}
