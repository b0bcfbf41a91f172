package sample

import (
	"fmt"
	"math/rand"
	"testing"

	"copyhold/api"
	"copyhold/code"
	"copyhold/verify"
)

func TestMostModulesMayBeRun(t *testing.T) {
	ops, ends := map[int]int{}, map[int]int{}
	right := 0
	for seed := range int64(500) {
		m := New(rand.New(rand.NewSource(seed)).Intn).Module()
		if fault := code.Check(m); fault.Code != 0 {
			t.Fatalf("seed %d: no module: %v", seed, fault)
		}
		if verify.Check(m).Code == 0 {
			right++
		}
		for _, f := range m.Funcs {
			for _, b := range f.Blocks {
				ends[b.End.Op]++
				for _, x := range b.Code {
					ops[x.Op]++
				}
			}
		}
	}
	if right < 400 {
		t.Errorf("only %d of 500 may be run", right)
	}
	for op := api.INum; op <= api.ICall; op++ {
		if ops[op] < 10 {
			t.Errorf("only %d instructions of the kind %d", ops[op], op)
		}
	}
	for op := api.EJump; op <= api.ERet; op++ {
		if ends[op] < 100 {
			t.Errorf("only %d ends of the kind %d", ends[op], op)
		}
	}
}

func TestWildModulesAreModules(t *testing.T) {
	right := 0
	for seed := range int64(500) {
		m := New(rand.New(rand.NewSource(seed)).Intn).Wild()
		if fault := code.Check(m); fault.Code != 0 {
			t.Fatalf("seed %d: no module: %v", seed, fault)
		}
		if verify.Check(m).Code == 0 {
			right++
		}
	}
	if right > 100 {
		t.Errorf("%d of 500 may be run", right)
	}
}

func TestASpoiltModuleSharesNothing(t *testing.T) {
	tally := map[bool]int{}
	for seed := range int64(500) {
		r := New(rand.New(rand.NewSource(seed)).Intn)
		m := r.Module()
		ahead := fmt.Sprint(m)
		spoilt := r.Spoilt(r.Spoilt(m))
		if fmt.Sprint(m) != ahead {
			t.Fatalf("seed %d: the module was changed", seed)
		}
		tally[verify.Check(spoilt).Code == 0]++
	}
	if tally[true] < 20 || tally[false] < 20 {
		t.Errorf("%v of 500 may be run", tally)
	}
}
