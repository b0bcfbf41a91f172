package judge

import (
	"slices"
	"testing"

	"copyhold/api"
)

// What follows

// ruin has a region of each sort of thing that was freed, 2, and reaches into it by a tuple at the region 1, which is held.
// The values are 0 int, 1 handle 1, 2 handle 2, 3 array 2, 4 tuple 2 (int, array 1), 5 tuple 1 (handle 2, array 2, tuple 2 (int, array 1)), 6 handle 0; got out of it behind: 7 handle 2, 8 array 2, 9 tuple 2 (int, array 1).
func ruin(t *testing.T) *State {
	t.Helper()
	s := begun(t, `
func 0 () -> () { block 0 () { ret (); } }
func 1 (handle 0) -> () { block 1 (handle 0) { ret (); } }
func 1 () -> () {
	block 1 () { ret (); }
	block 2 () { ret (); }
	block 2 (handle 1) { ret (); }
	block 2 (array 1) { ret (); }
	block 2 (tuple 1 (int, array 1)) { ret (); }
	block 3 (handle 2, array 2) { ret (); }
	block 3 (int, handle 1, handle 2, array 2, tuple 2 (int, array 1), tuple 1 (handle 2, array 2, tuple 2 (int, array 1)), handle 0) { ret (); }
}`)
	goesOn(t, s, free(2), get(5, 0), get(5, 1), get(5, 2))
	wantTypes(t, s, "int", "handle 1", "handle 2", "array 2", "tuple 2 (int, array 1)", "tuple 1 (handle 2, array 2, tuple 2 (int, array 1))", "handle 0", "handle 2", "array 2", "tuple 2 (int, array 1)")
	wantHeld(t, s, 3, 0, 1)
	return s
}

func TestWhatLiesInAFreedRegionIsNeitherReadNorWritten(t *testing.T) {
	for _, a := range []int{2, 7} {
		for _, x := range []api.Ins{free(a), tuple(a), tuple(a, 0), array(a, 0)} {
			wantIns(t, "its handle", ruin(t), x, api.ErrHeld)
		}
	}
	for _, a := range []int{3, 8} {
		for _, x := range []api.Ins{load(a, 0), store(a, 0, 0), length(a)} {
			wantIns(t, "its array", ruin(t), x, api.ErrHeld)
		}
	}
	for _, a := range []int{4, 9} {
		for _, x := range []api.Ins{get(a, 0), get(a, 1), set(a, 0, 0), get(a, 7), set(a, 7, 0)} {
			wantIns(t, "its tuple", ruin(t), x, api.ErrHeld)
		}
	}
}

func TestAFreedRegionIsNotHandedOn(t *testing.T) {
	wantIns(t, "lent", ruin(t), call(1, regs(2), 1), api.ErrHeld)
	wantIns(t, "lent with its handle", ruin(t), call(1, regs(2), 2), api.ErrHeld)
	wantIns(t, "its handle, as if it were of another one", ruin(t), call(1, regs(1), 2), api.ErrType)
	wantIns(t, "one that is held", ruin(t), call(1, regs(1), 1), 0)
	wantEnd(t, "in a To", ruin(t), jump(to(1, regs(0, 2))), api.ErrHeld)
	wantEnd(t, "in a To beside the others", ruin(t), jump(to(5, regs(0, 1, 2), 2, 3)), api.ErrHeld)
	wantEnd(t, "in the second To", ruin(t), fork(0, to(1, regs(0, 1)), to(1, regs(0, 2))), api.ErrHeld)
	wantEnd(t, "without it", ruin(t), jump(to(1, regs(0, 1))), 0)
}

func TestWhatLiesInAFreedRegionIsNotHandedOn(t *testing.T) {
	for b, dead := range map[int][]int{2: {2, 7}, 3: {3, 8}, 4: {4, 9}} {
		for _, a := range append(dead, 5) {
			wantEnd(t, "as if it lay in the one that is held", ruin(t), jump(to(b, regs(0, 1), a)), api.ErrType)
		}
	}
	wantEnd(t, "what lies in one that is held", ruin(t), jump(to(2, regs(0, 1), 1)), 0)
}

func TestTypesOfAFreedRegionMayStandInValues(t *testing.T) {
	s := ruin(t)
	wantMade(t, s, tuple(1, 2, 8, 4), "tuple 1 (handle 2, array 2, tuple 2 (int, array 1))")
	wantMade(t, s, set(5, 0, 7))
	wantMade(t, s, set(5, 2, 9))
	wantMade(t, s, set(10, 1, 3))
	wantMade(t, s, tuple(6, 5), "tuple 0 (tuple 1 (handle 2, array 2, tuple 2 (int, array 1)))")
	wantMade(t, s, get(11, 0), "tuple 1 (handle 2, array 2, tuple 2 (int, array 1))")
	wantIns(t, "and lead nowhere", s, get(9, 0), api.ErrHeld)
	goesOn(t, s, free(1))
	wantMade(t, s, get(11, 0), "tuple 1 (handle 2, array 2, tuple 2 (int, array 1))")
	wantIns(t, "and lead nowhere", s, get(13, 0), api.ErrHeld)
	wantHeld(t, s, 3, 0)
}

// A new region has a number of its own, so that nothing that lay in one that was freed is taken for what lies in it.
func TestANewRegionIsNotTheFreedOne(t *testing.T) {
	s := ruin(t)
	wantMade(t, s, fresh(), "handle 3")
	wantIns(t, "the old handle", s, tuple(2), api.ErrHeld)
	wantIns(t, "the old array", s, load(3, 0), api.ErrHeld)
	wantEnd(t, "the old things under the new name", s, jump(to(5, regs(0, 1, 3), 2, 3)), api.ErrType)
	goesOn(t, s, array(10, 0))
	wantEnd(t, "the new ones", s, jump(to(5, regs(0, 1, 3), 10, 11)), 0)
}

// Each instruction at each value, behind each way to free regions: none that touches a region that isn't held is let by.
func TestNoInstructionTouchesWhatIsNotHeld(t *testing.T) {
	touching := []func(a int) api.Ins{
		free, length,
		func(a int) api.Ins { return tuple(a, 0) },
		func(a int) api.Ins { return array(a, 0) },
		func(a int) api.Ins { return load(a, 0) },
		func(a int) api.Ins { return store(a, 0, 0) },
		func(a int) api.Ins { return get(a, 1) },
		func(a int) api.Ins { return set(a, 0, 0) },
	}
	for _, freed := range [][]int{nil, {1}, {2}, {3}, {1, 2}, {2, 3}, {3, 1}, {1, 2, 3}} {
		for a := range 13 {
			for _, x := range touching {
				s := goesOn(t, begun(t, smallest), num(1), fresh(), fresh(), fresh())
				for _, h := range []int{1, 2, 3} {
					goesOn(t, s, array(h, 0), tuple(h, 0, 2), tuple(h, 0, 3))
				}
				for _, h := range freed {
					goesOn(t, s, free(h))
				}
				held := s.List()
				if s.Ins(x(a)) == 0 && !slices.Contains(held, s.Types()[a].R) {
					t.Errorf("%+v was let by, and held are %v", x(a), held)
				}
			}
		}
	}
}
