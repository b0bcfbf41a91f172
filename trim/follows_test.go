package trim

import (
	"fmt"
	"math"
	"math/rand"
	"slices"
	"testing"

	"copyhold/api"
	"copyhold/sample"
	"copyhold/verify"
)

// What follows: what was made may be run, and comes to the same Outcome, whatever comes in.

// comesIn answers some numbers, few and small ones mostly.
func comesIn(r *rand.Rand) []int64 {
	n := r.Intn(30)
	if r.Intn(4) == 0 {
		n = r.Intn(api.MaxInput + 1)
	}
	var in []int64
	for range n {
		in = append(in, someNumber(r))
	}
	return in
}

func someNumber(r *rand.Rand) int64 {
	switch r.Intn(20) {
	case 0:
		return []int64{math.MinInt64, math.MaxInt64, 1 << 32, -1 << 32, 1<<32 + 1}[r.Intn(5)]
	case 1:
		return int64(r.Uint64())
	case 2:
		return int64(r.Intn(20))
	}
	return int64(r.Intn(6) - 1)
}

// anyFuel and anyPages are within their bounds, small ones mostly.
func anyFuel(r *rand.Rand) int {
	if r.Intn(40) == 0 {
		return r.Intn(api.MaxFuel + 1)
	}
	return r.Intn(400)
}

func anyPages(r *rand.Rand) int {
	if r.Intn(3) == 0 {
		return r.Intn(api.MaxPages + 1)
	}
	return r.Intn(6)
}

// tally counts what comes up in a long run.
type tally struct {
	ends                   map[int]int
	wrong                  int
	blocks, funcs, nothing int
}

// note counts how much went.
func (y *tally) note(m, made api.Module) {
	if len(made.Funcs) < len(m.Funcs) {
		y.funcs++
	}
	count := func(m api.Module) (n int) {
		for _, f := range m.Funcs {
			n += len(f.Blocks)
		}
		return n
	}
	if count(made) < count(m) {
		y.blocks++
	} else {
		y.nothing++
	}
}

// looked looks at all that holds of a module, whether it may be run or not.
func (y *tally) looked(t *testing.T, r *rand.Rand, what string, m api.Module) {
	t.Helper()
	if fault := verify.Check(m); fault.Code != 0 {
		y.wrong++
		wantFault(t, what, m, fault.Code, fault.At)
		return
	}
	got := made(t, what, m)
	if want := plainMake(m); told(got) != told(want) {
		t.Errorf("%s: Make = %v, want %v", what, got, want)
	}
	y.note(m, got)
	for range 3 {
		y.ends[wantSameRun(t, what, m, got, comesIn(r), anyFuel(r), anyPages(r)).End]++
	}
	if t.Failed() {
		t.Fatalf("%s: %+v", what, m)
	}
}

func TestManyModulesRunTheSame(t *testing.T) {
	y := tally{ends: map[int]int{}}
	for seed := range int64(2000) {
		r := rand.New(rand.NewSource(seed))
		maker := sample.New(r.Intn)
		m := maker.Module()
		for i, x := range []api.Module{m, maker.Spoilt(m), maker.Spoilt(m), maker.Wild()} {
			y.looked(t, r, fmt.Sprint("seed ", seed, ", ", i), x)
		}
	}
	for end, least := range map[int]int{
		api.EndHalt: 500, api.EndDivide: 50, api.EndIndex: 50, api.EndLength: 50, api.EndInput: 500,
		api.EndDepth: 50, api.EndMemory: 500, api.EndFuel: 300,
	} {
		if y.ends[end] < least {
			t.Errorf("the end %d comes up %d times alone", end, y.ends[end])
		}
	}
	if y.wrong < 2000 || y.blocks < 500 || y.funcs < 300 || y.nothing < 150 {
		t.Errorf("%d may not be run, of %d blocks go, of %d functions, of %d no block", y.wrong, y.blocks, y.funcs, y.nothing)
	}
}

// woven is a module of many blocks and functions without regions; few of them lead to one another and call one another if few is told.
func woven(r *rand.Rand) api.Module {
	var m api.Module
	funcs, often := 1+r.Intn(api.MaxFuncs), 1+r.Intn(5)
	for range funcs {
		n := 1 + r.Intn(api.MaxBlocks)
		var ends [][]int
		var labels []int
		for range n {
			list := []int{r.Intn(n), r.Intn(n)}
			ends = append(ends, list[:r.Intn(3)])
			labels = append(labels, r.Intn(1000))
		}
		f := blocksOf(labels, ends)
		for b := range f.Blocks {
			for r.Intn(often) == 0 && len(f.Blocks[b].Code) < api.MaxCode {
				f.Blocks[b].Code = slices.Insert(f.Blocks[b].Code, 0, api.Ins{Op: api.ICall, K: r.Intn(funcs)})
			}
		}
		m.Funcs = append(m.Funcs, f)
	}
	return m
}

func TestManyWovenModulesRunTheSame(t *testing.T) {
	y := tally{ends: map[int]int{}}
	for seed := range int64(800) {
		r := rand.New(rand.NewSource(seed))
		y.looked(t, r, fmt.Sprint("seed ", seed), woven(r))
	}
	if y.wrong > 0 {
		t.Errorf("%d may not be run", y.wrong)
	}
	for _, end := range []int{api.EndHalt, api.EndInput, api.EndFuel, api.EndDepth} {
		if y.ends[end] < 50 {
			t.Errorf("the end %d comes up %d times alone", end, y.ends[end])
		}
	}
	if y.blocks < 500 || y.funcs < 200 || y.nothing < 10 {
		t.Errorf("of %d blocks go, of %d functions, of %d no block", y.blocks, y.funcs, y.nothing)
	}
}

func TestItRunsTheSameHoweverManyStepsAndPages(t *testing.T) {
	m, want := moduleOf(t, rich), moduleOf(t, kept)
	got := made(t, "rich", m)
	ends := map[int]int{}
	for _, in := range [][]int64{nil, {0}, {1}, {0, 1, 1}, {0, 0, 0, 1, 5}, {1, 1, 1}, {0, 0, 7, 7}, {math.MinInt64, 3}} {
		for fuel := range 90 {
			for _, pages := range []int{0, 1, 2, 5} {
				ends[wantSameRun(t, "rich", m, got, in, fuel, pages).End]++
				wantSameRun(t, "kept", m, want, in, fuel, pages)
			}
		}
	}
	for _, end := range []int{api.EndInput, api.EndFuel, api.EndMemory} {
		if ends[end] < 20 {
			t.Errorf("the end %d comes up %d times alone", end, ends[end])
		}
	}
}

func TestAFullOutputAndAFullTankAreTheSame(t *testing.T) {
	text := "func 0 () -> () { block 0 () { jump 3 <> (); } block 0 () { call 1 <> (); ret (); } block 0 () { ret (); } block 0 () { num 1; %s jump 3 <> (); } } func 0 () -> () { block 0 () { ret (); } }"
	for _, x := range []struct {
		body string
		end  int
	}{{"out 0;", api.EndOutput}, {"", api.EndFuel}} {
		m := moduleOf(t, fmt.Sprintf(text, x.body))
		o := wantSameRun(t, x.body, m, made(t, x.body, m), nil, api.MaxFuel, 0)
		if o.End != x.end {
			t.Errorf("%s: it ends by %d, want %d", x.body, o.End, x.end)
		}
	}
}

func TestTheDepthIsTheSame(t *testing.T) {
	m := moduleOf(t, "func 0 () -> () { block 0 () { call 2 <> (); ret (); } } func 0 () -> () { block 0 () { call 1 <> (); ret (); } } func 0 () -> () { block 0 () { jump 2 <> (); } block 0 () { ret (); } block 0 () { num 5; out 0; call 2 <> (); ret (); } }")
	o := wantSameRun(t, "deep", m, made(t, "deep", m), nil, api.MaxFuel, 0)
	if o.End != api.EndDepth || len(o.Out) != api.MaxFrames-1 {
		t.Errorf("it ends by %d with %v", o.End, o.Out)
	}
}

func TestWhateverIsHandedIn(t *testing.T) {
	wrong := 0
	for seed := range int64(4000) {
		r := rand.New(rand.NewSource(seed))
		maker := sample.New(r.Intn)
		m := maker.Spoilt(maker.Spoilt(maker.Wild()))
		for range r.Intn(4) {
			rough(r, m)
		}
		fault := verify.Check(m)
		if fault.Code == 0 {
			wantAsPlain(t, fmt.Sprint("seed ", seed), m)
			continue
		}
		wrong++
		wantFault(t, fmt.Sprint("seed ", seed), m, fault.Code, fault.At)
	}
	if wrong < 2000 {
		t.Errorf("%d modules alone may not be run", wrong)
	}
}

// rough puts some number in where numbers of blocks and functions, kinds and regions stand.
func rough(r *rand.Rand, m api.Module) {
	f := &m.Funcs[r.Intn(len(m.Funcs))]
	b := &f.Blocks[r.Intn(len(f.Blocks))]
	n := int(someNumber(r))
	switch r.Intn(7) {
	case 0:
		b.End.Yes.Block = n
	case 1:
		b.End.No.Block = n
	case 2:
		b.End.Op = n
	case 3:
		b.Regs = n
	case 4:
		f.Regs = n
	case 5:
		f.Blocks = f.Blocks[:r.Intn(len(f.Blocks))+1]
	default:
		for i := range b.Code {
			if b.Code[i].Op == api.ICall {
				b.Code[i].K = n
			}
		}
	}
}
