package verify

import (
	"math/rand"
	"testing"

	"copyhold/api"
	"copyhold/arith"
	"copyhold/code"
	"copyhold/sample"
)

// What follows

// area is a region, and seen a value that knows what it is: a number, a handle, or the thing parts in a region.
type area struct{ gone bool }

type seen struct {
	kind   int
	n      int64
	region *area
	parts  *[]seen
}

func whole(n int64) seen { return seen{kind: api.TInt, n: n} }

type frame struct {
	f, b, i int
	values  []seen
	regions []*area
}

// sighted runs a module, and is stuck where something can't be. It has as many pages as it likes.
type sighted struct {
	m      api.Module
	in     []int64
	frames []*frame
	live   int
}

// stuck and ended are what it gives up by.
type stuck struct{}
type ended struct{}

func can(ok bool) {
	if !ok {
		panic(stuck{})
	}
}

func goesOn(ok bool) {
	if !ok {
		panic(ended{})
	}
}

func (s *frame) value(a, kind int) seen {
	can(a >= 0 && a < len(s.values))
	v := s.values[a]
	can(kind == 0 || v.kind == kind)
	return v
}

func (s *frame) thing(a, kind int) *[]seen {
	v := s.value(a, kind)
	can(!v.region.gone)
	return v.parts
}

func (s *frame) handle(a int) *area {
	r := s.value(a, api.THandle).region
	can(!r.gone)
	return r
}

func (s *frame) all(args []int) []seen {
	var list []seen
	for _, a := range args {
		list = append(list, s.value(a, 0))
	}
	return list
}

func (s *frame) names(regs []int) []*area {
	var list []*area
	for _, r := range regs {
		can(r >= 0 && r < len(s.regions))
		list = append(list, s.regions[r])
	}
	return list
}

func (s *frame) makes(list ...seen) { s.values = append(s.values, list...) }

func (s *sighted) begin(f, b int, regions []*area, values []seen) *frame {
	block := s.m.Funcs[f].Blocks[b]
	can(len(regions) == block.Regs && len(values) == len(block.Params))
	return &frame{f: f, b: b, regions: regions, values: values}
}

func (s *sighted) step() {
	top := s.frames[len(s.frames)-1]
	block := s.m.Funcs[top.f].Blocks[top.b]
	if top.i < len(block.Code) {
		top.i++
		s.ins(top, block.Code[top.i-1])
		return
	}
	s.end(top, block.End)
}

func (s *sighted) ins(top *frame, x api.Ins) {
	switch x.Op {
	case api.INum:
		top.makes(whole(x.N))
	case api.IBin:
		n, ok := arith.Op(x.K, top.value(x.A, api.TInt).n, top.value(x.B, api.TInt).n)
		goesOn(ok)
		top.makes(whole(n))
	case api.INew:
		goesOn(s.live < api.MaxRegions)
		s.live++
		r := &area{}
		top.regions = append(top.regions, r)
		top.makes(seen{kind: api.THandle, region: r})
	case api.IFree:
		top.handle(x.A).gone = true
		s.live--
	case api.ITuple:
		parts := top.all(x.Args)
		top.makes(seen{kind: api.TTuple, region: top.handle(x.A), parts: &parts})
	case api.IArray:
		n := top.value(x.B, api.TInt).n
		goesOn(n >= 0 && n <= api.MaxArray)
		parts := make([]seen, n)
		for i := range parts {
			parts[i] = whole(0)
		}
		top.makes(seen{kind: api.TArray, region: top.handle(x.A), parts: &parts})
	case api.IIn:
		goesOn(len(s.in) > 0)
		top.makes(whole(s.in[0]))
		s.in = s.in[1:]
	case api.IOut:
		top.value(x.A, api.TInt)
	case api.ICall:
		f := s.m.Funcs[x.K]
		can(len(x.Regs) == f.Regs && len(x.Args) == len(f.Params))
		next := s.begin(x.K, 0, top.names(x.Regs), top.all(x.Args))
		goesOn(len(s.frames) < api.MaxFrames)
		s.frames = append(s.frames, next)
	default:
		s.part(top, x)
	}
}

func (s *sighted) part(top *frame, x api.Ins) {
	switch x.Op {
	case api.IGet, api.ISet:
		parts := *top.thing(x.A, api.TTuple)
		can(x.K < len(parts))
		if x.Op == api.ISet {
			parts[x.K] = top.value(x.B, 0)
			return
		}
		top.makes(parts[x.K])
	case api.ILoad, api.IStore:
		parts := *top.thing(x.A, api.TArray)
		at := top.value(x.B, api.TInt).n
		if x.Op == api.IStore {
			v := top.value(x.C, api.TInt)
			goesOn(at >= 0 && at < int64(len(parts)))
			parts[at] = v
			return
		}
		goesOn(at >= 0 && at < int64(len(parts)))
		top.makes(parts[at])
	case api.ILen:
		top.makes(whole(int64(len(*top.thing(x.A, api.TArray)))))
	}
}

func (s *sighted) end(top *frame, e api.End) {
	next := e.Yes
	switch e.Op {
	case api.ERet:
		s.back(top, e.Args)
		return
	case api.EIf:
		if top.value(e.A, api.TInt).n == 0 {
			next = e.No
		}
	}
	*top = *s.begin(top.f, next.Block, top.names(next.Regs), top.all(next.Args))
}

func (s *sighted) back(top *frame, args []int) {
	list := top.all(args)
	can(len(list) == len(s.m.Funcs[top.f].Results))
	s.frames = s.frames[:len(s.frames)-1]
	if len(s.frames) > 0 {
		s.frames[len(s.frames)-1].makes(list...)
		return
	}
	for _, v := range list {
		can(v.kind == api.TInt)
	}
	// what may be run leaves no region behind, either
	can(s.live == 0)
	panic(ended{})
}

// isStuck runs a module, and tells whether it is stuck, and behind how many steps it ended.
func isStuck(m api.Module, in []int64, fuel int) (is bool, steps int) {
	defer func() {
		x := recover()
		_, is = x.(stuck)
		if _, over := x.(ended); x != nil && !is && !over {
			panic(x)
		}
	}()
	s := &sighted{m: m, in: in}
	s.frames = []*frame{s.begin(0, 0, nil, nil)}
	for ; steps < fuel; steps++ {
		s.step()
	}
	return false, steps
}

func TestWhatMayBeRunIsNeverStuck(t *testing.T) {
	runs, steps, refused, stuckOnes := 0, 0, 0, 0
	for seed := range int64(3000) {
		r := sample.New(rand.New(rand.NewSource(seed)).Intn)
		m := r.Module()
		for _, x := range []api.Module{m, r.Spoilt(m), r.Spoilt(m), r.Wild()} {
			if code.Check(x).Code != 0 {
				continue
			}
			fault := Check(x)
			for _, in := range [][]int64{nil, {0, 1, 2, 3, 0, 0, 1}, {7, -1, 1, 5, 1, 1, 1, 1, 0, 1}} {
				is, n := isStuck(x, in, 300)
				if fault.Code != 0 {
					refused++
					if is {
						stuckOnes++
					}
					continue
				}
				runs, steps = runs+1, steps+n
				if is {
					t.Fatalf("seed %d: stuck behind %d steps with %v: %+v", seed, n, in, x)
				}
			}
		}
	}
	if runs < 10000 || steps < 10*runs {
		t.Errorf("only %d runs of %d steps", runs, steps)
	}
	if stuckOnes < 500 {
		t.Errorf("of %d runs of what may not be run only %d were stuck", refused, stuckOnes)
	}
}
