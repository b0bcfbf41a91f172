package judge

import (
	"copyhold/api"
	"copyhold/types"
)

// goOn asks all that an instruction asks ahead of the first change, so that behind a code all is as it was.
func (s *State) goOn(x api.Ins) {
	switch x.Op {
	case api.INum, api.IIn:
		s.makesInt()
	case api.IBin:
		s.mustInts(x.A, x.B)
		s.makesInt()
	case api.INew:
		s.open()
	case api.IFree:
		s.free(x.A)
	case api.ITuple:
		s.tuple(x.A, x.Args)
	case api.IGet:
		s.makes(s.fieldOf(x.A, x.K))
	case api.ISet:
		s.mustBe(x.B, s.fieldOf(x.A, x.K))
	case api.IArray:
		s.array(x.A, x.B)
	case api.ILoad:
		s.heldOf(x.A, api.TArray)
		s.mustInts(x.B)
		s.makesInt()
	case api.IStore:
		s.heldOf(x.A, api.TArray)
		s.mustInts(x.B, x.C)
	case api.ILen:
		s.heldOf(x.A, api.TArray)
		s.makesInt()
	case api.IOut:
		s.mustInts(x.A)
	case api.ICall:
		s.call(x)
	}
}

func (s *State) makes(list ...api.Type) {
	s.mustHaveRoom(len(list))
	s.values = append(s.values, list...)
}

func (s *State) makesInt() {
	s.makes(api.Type{Kind: api.TInt})
}

func (s *State) mustHaveRoom(more int) {
	must(len(s.values)+more <= api.MaxValues, api.ErrMany)
}

// open asks for room first: a region that is open can't be taken back.
func (s *State) open() {
	s.mustHaveRoom(1)
	r := s.Open()
	must(r >= 0, api.ErrMany)
	s.makes(api.Type{Kind: api.THandle, R: r})
}

// free leaves the function's regions alone: they are its caller's.
func (s *State) free(a int) {
	r := s.heldOf(a, api.THandle).R
	must(r >= s.within.Regs, api.ErrKept)
	s.Shut(r)
}

// tuple does not ask whether what lies in it is still held: that is asked where it is got out again and used.
func (s *State) tuple(a int, args []int) {
	t := api.Type{Kind: api.TTuple, R: s.heldOf(a, api.THandle).R}
	for _, arg := range args {
		t.L = append(t.L, s.value(arg))
	}
	must(types.Check(t, s.Len()) == 0, api.ErrDeep)
	s.makes(t)
}

func (s *State) array(a, b int) {
	r := s.heldOf(a, api.THandle).R
	s.mustInts(b)
	s.makes(api.Type{Kind: api.TArray, R: r})
}

func (s *State) call(x api.Ins) {
	called := s.Funcs[x.K]
	s.mustLend(x.Regs, called.Regs)
	s.mustHand(x.Args, renamed(called.Params, x.Regs))
	s.makes(renamed(called.Results, x.Regs)...)
}
