package judge

import (
	"slices"

	"copyhold/api"
	"copyhold/types"
)

// What is asked here gives up where it isn't so, and changes nothing.

func (s *State) value(a int) api.Type {
	must(a >= 0 && a < len(s.values), api.ErrRange)
	return s.values[a]
}

func (s *State) ofKind(a, kind int) api.Type {
	t := s.value(a)
	must(t.Kind == kind, api.ErrType)
	return t
}

// heldOf: a handle, or what lies in a region, is of use only as long as its region is held.
func (s *State) heldOf(a, kind int) api.Type {
	t := s.ofKind(a, kind)
	must(s.Has(t.R), api.ErrHeld)
	return t
}

func (s *State) mustInts(list ...int) {
	for _, a := range list {
		s.ofKind(a, api.TInt)
	}
}

// fieldOf is the type of the field k of the tuple a.
func (s *State) fieldOf(a, k int) api.Type {
	t := s.heldOf(a, api.TTuple)
	must(k < len(t.L), api.ErrType)
	return t.L[k]
}

func (s *State) mustBe(a int, t api.Type) {
	must(types.Same(s.value(a), t), api.ErrType)
}

// mustHand: the values args are handed over where such types are asked for.
func (s *State) mustHand(args []int, asked []api.Type) {
	must(len(args) == len(asked), api.ErrMany)
	for i, a := range args {
		s.mustBe(a, asked[i])
	}
}

// mustLend: the regions are a called function's for a while. Others than these may be held, too.
func (s *State) mustLend(regs []int, asked int) {
	must(len(regs) == asked, api.ErrMany)
	for i, r := range regs {
		must(s.Has(r), api.ErrHeld)
		must(!slices.Contains(regs[:i], r), api.ErrTwice)
	}
}

// mustPass: the regions are the next block's from now on, so that none is forgotten, and those of the function's caller stay where they are.
func (s *State) mustPass(regs []int, asked int) {
	must(len(regs) == asked, api.ErrMany)
	for r := range s.within.Regs {
		must(regs[r] == r, api.ErrKept)
	}
	code := s.Pass(regs)
	must(code == 0, code)
}

// renamed are types of a module over regions that were handed over just now: there is one for each region that they name, so that Rename never tells false.
func renamed(list []api.Type, regs []int) []api.Type {
	made := make([]api.Type, len(list))
	for i, t := range list {
		made[i], _ = types.Rename(t, regs)
	}
	return made
}
