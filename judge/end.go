package judge

import (
	"slices"

	"copyhold/api"
)

func (s *State) mustEnd(e api.End) {
	switch e.Op {
	case api.EJump:
		s.mustReach(e.Yes)
	case api.EIf:
		s.mustInts(e.A)
		s.mustReach(e.Yes)
		s.mustReach(e.No)
	case api.ERet:
		s.mustHand(e.Args, s.within.Results)
		s.mustLeaveNone()
	}
}

func (s *State) mustReach(to api.To) {
	block := s.within.Blocks[to.Block]
	s.mustPass(to.Regs, block.Regs)
	s.mustHand(to.Args, renamed(block.Params, to.Regs))
}

// mustLeaveNone: behind a function's end nobody could free what it opened.
func (s *State) mustLeaveNone() {
	isLeft := func(r int) bool { return r >= s.within.Regs }
	must(!slices.ContainsFunc(s.List(), isLeft), api.ErrLeft)
}
