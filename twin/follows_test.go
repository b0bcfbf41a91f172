package twin

import (
	"math"
	"math/rand"
	"testing"

	"copyhold/api"
	"copyhold/sample"
	"copyhold/verify"
)

// A long random run: what P16.1 tells as a fault is never told.

// comesIn answers some numbers: few and small ones mostly, so that some runs have enough of them and go on for long.
func comesIn(r *rand.Rand) []int64 {
	n := r.Intn(30)
	if r.Intn(4) == 0 {
		n = r.Intn(api.MaxInput + 1)
	}
	var in []int64
	for range n {
		in = append(in, someNumber(r))
	}
	return in
}

func someNumber(r *rand.Rand) int64 {
	switch r.Intn(20) {
	case 0:
		return []int64{math.MinInt64, math.MaxInt64, math.MinInt64 + 1, 1 << 32, -1 << 32, 1<<32 + 1}[r.Intn(6)]
	case 1:
		return int64(r.Uint64())
	case 2:
		return int64(r.Intn(20))
	}
	return int64(r.Intn(6) - 1)
}

// anyFuel and anyPages are within their bounds, small ones mostly.
func anyFuel(r *rand.Rand) int {
	if r.Intn(40) == 0 {
		return r.Intn(api.MaxFuel + 1)
	}
	return r.Intn(400)
}

func anyPages(r *rand.Rand) int {
	if r.Intn(3) == 0 {
		return r.Intn(api.MaxPages + 1)
	}
	return r.Intn(6)
}

// wantAlikeAllAlong: no fault, and behind each step both machines have come to what the twin tells. It answers how the run ended.
func wantAlikeAllAlong(t *testing.T, seed int64, m api.Module, in []int64, fuel, pages int) int {
	t.Helper()
	defer func() {
		if t.Failed() {
			t.Logf("seed %d, %d, %d, %v: %+v", seed, fuel, pages, in, m)
		}
	}()
	x := followed(t, m, in, fuel, pages)
	o, fault := Run(m, in, fuel, pages)
	if fault != (api.Fault{}) || !Same(o, x.Outcome()) || told(o) != told(x.Outcome()) {
		t.Fatalf("Run = %v, %v, want %v", o, fault, x.Outcome())
	}
	return o.End
}

func TestManyRunsAreAlike(t *testing.T) {
	ends, wrong := map[int]int{}, 0
	for seed := range int64(2000) {
		r := rand.New(rand.NewSource(seed))
		maker := sample.New(r.Intn)
		m := maker.Module()
		for _, x := range []api.Module{m, maker.Spoilt(m), maker.Spoilt(m), maker.Wild()} {
			if want := verify.Check(x); want.Code != 0 {
				wrong++
				wantNew(t, "not to be run", x, comesIn(r), anyFuel(r), anyPages(r), want)
				continue
			}
			for range 3 {
				ends[wantAlikeAllAlong(t, seed, x, comesIn(r), anyFuel(r), anyPages(r))]++
			}
		}
	}
	for end, least := range map[int]int{
		api.EndHalt: 500, api.EndDivide: 50, api.EndIndex: 50, api.EndLength: 50, api.EndInput: 500,
		api.EndDepth: 50, api.EndMemory: 500, api.EndFuel: 300,
	} {
		if ends[end] < least {
			t.Errorf("the end %d comes up %d times alone", end, ends[end])
		}
	}
	if wrong < 2000 {
		t.Errorf("%d modules alone may not be run", wrong)
	}
}

func TestWhateverIsHandedIn(t *testing.T) {
	// bounds that are none, and modules that are none
	for seed := range int64(3000) {
		r := rand.New(rand.NewSource(seed))
		maker := sample.New(r.Intn)
		m := maker.Spoilt(maker.Spoilt(maker.Module()))
		fuel, pages := anyFuel(r), anyPages(r)
		var in []int64
		switch r.Intn(4) {
		case 0:
			fuel = int(someNumber(r))
		case 1:
			pages = int(someNumber(r))
		case 2:
			in = make([]int64, api.MaxInput-1+r.Intn(4))
		}
		want := verify.Check(m)
		outside := fuel < 0 || fuel > api.MaxFuel || pages < 0 || pages > api.MaxPages || len(in) > api.MaxInput
		if want.Code == 0 && outside {
			want = api.Fault{Code: api.ErrRange, At: -1}
		}
		wantNew(t, "whatever", m, in, fuel, pages, want)
	}
}
