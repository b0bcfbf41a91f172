package raw

import (
	"math/rand"
	"testing"

	"copyhold/api"
	"copyhold/ideal"
	"copyhold/sample"
	"copyhold/verify"
)

// What follows

// comesIn answers some numbers; a run with none ends early.
func comesIn(r *rand.Rand) []int64 {
	var in []int64
	for range r.Intn(30) {
		in = append(in, int64(r.Intn(6)-1))
	}
	return in
}

// wantAlikeAllAlong runs both step by step, and some steps more, and answers how it ended.
func wantAlikeAllAlong(t *testing.T, seed int64, m api.Module, in []int64, fuel, pages int) int {
	t.Helper()
	x := begun(t, m, in, fuel, pages)
	sees, _ := ideal.New(m, in, fuel, pages)
	wantAlike(t, x, sees)
	for more := 0; more < 3; {
		if x.Done() {
			more++
		}
		wantStep(t, x, sees)
	}
	o, fault := Run(m, in, fuel, pages)
	if fault.Code != 0 || !sameOutcome(o, x.Outcome()) {
		t.Fatalf("Run = %v, %v, want %v", o, fault, x.Outcome())
	}
	if t.Failed() {
		t.Fatalf("seed %d: %+v", seed, m)
	}
	return o.End
}

func TestManyRunsComeToWhatTheMachineThatSeesComesTo(t *testing.T) {
	ends, wrong := map[int]int{}, 0
	for seed := range int64(3000) {
		r := rand.New(rand.NewSource(seed))
		maker := sample.New(r.Intn)
		m := maker.Module()
		for _, x := range []api.Module{m, maker.Spoilt(m), maker.Spoilt(m), maker.Wild()} {
			if want := verify.Check(x); want.Code != 0 {
				wrong++
				wantNew(t, "not to be run", x, comesIn(r), r.Intn(400), r.Intn(6), want)
				continue
			}
			for range 3 {
				ends[wantAlikeAllAlong(t, seed, x, comesIn(r), r.Intn(400), r.Intn(6))]++
			}
			ends[wantAlikeAllAlong(t, seed, x, comesIn(r), r.Intn(2000), r.Intn(api.MaxPages+1))]++
		}
	}
	for end, least := range map[int]int{
		api.EndHalt: 1000, api.EndDivide: 50, api.EndIndex: 50, api.EndLength: 50, api.EndInput: 1000,
		api.EndDepth: 50, api.EndMemory: 1000, api.EndFuel: 500,
	} {
		if ends[end] < least {
			t.Errorf("the end %d comes up %d times alone", end, ends[end])
		}
	}
	if wrong < 5000 {
		t.Errorf("%d modules alone may not be run", wrong)
	}
}
