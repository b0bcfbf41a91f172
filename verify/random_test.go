package verify

import (
	"math/rand"
	"testing"

	"copyhold/api"
	"copyhold/code"
	"copyhold/judge"
	"copyhold/sample"
)

// plainCheck goes over the whole module, whatever was told ahead (behind a code all is as it was), and takes the fault that stands first.
func plainCheck(m api.Module) api.Fault {
	if fault := code.Check(m); fault.Code != 0 {
		return fault
	}
	var all []api.Fault
	for f := len(m.Funcs) - 1; f >= 0; f-- {
		for b := len(m.Funcs[f].Blocks) - 1; b >= 0; b-- {
			block := m.Funcs[f].Blocks[b]
			s, _ := judge.New(m, f, b)
			for i, x := range block.Code {
				all = append(all, api.Fault{Code: s.Ins(x), At: f*10000 + b*100 + i})
			}
			all = append(all, api.Fault{Code: s.End(block.End), At: f*10000 + b*100 + 91})
		}
	}
	first := api.Fault{}
	for _, fault := range all {
		if fault.Code != 0 && (first.Code == 0 || fault.At < first.At) {
			first = fault
		}
	}
	return first
}

func TestManyModulesAreAsThePlainOnes(t *testing.T) {
	tally := map[int]int{}
	for seed := range int64(2500) {
		r := sample.New(rand.New(rand.NewSource(seed)).Intn)
		m := r.Module()
		for _, x := range []api.Module{m, r.Spoilt(m), r.Spoilt(m), r.Wild()} {
			got, want := Check(x), plainCheck(x)
			if got != want {
				t.Fatalf("seed %d: Check = %v, want %v", seed, got, want)
			}
			tally[got.Code]++
			if got.Code != 0 && got.At%100 == 91 {
				tally[-got.Code]++
			}
		}
	}
	if tally[0] < 2500 {
		t.Errorf("only %d of the modules may be run", tally[0])
	}
	for _, kind := range []int{api.ErrRange, api.ErrMany, api.ErrType, api.ErrHeld, api.ErrKept, api.ErrLeft, api.ErrTwice, api.ErrForm} {
		if kind != api.ErrKept && tally[kind] < 5 || tally[-kind] < 5 {
			t.Errorf("the code %d was told %d times, %d of them of ends", kind, tally[kind], tally[-kind])
		}
	}
}
