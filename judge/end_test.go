package judge

import (
	"fmt"
	"slices"
	"testing"

	"copyhold/api"
)

// landing is in a function of two regions, with 0 to 3 and 5 held; the block 1 asks for just as many. The values are 0 int, 1 handle 5, 2 array 3, 3 tuple 2 (handle 5, array 1), 4 handle 4, 5 handle 0, 6 int, 7 array 4.
func landing(t *testing.T) *State {
	t.Helper()
	s := begun(t, `
func 0 () -> () { block 0 () { ret (); } }
func 2 (int, handle 0) -> (int, handle 0) {
	block 2 (int, handle 0) { ret (); }
	block 5 (handle 4, array 3, tuple 2 (handle 4, array 1), int) { ret (); }
	block 5 () { ret (); }
	block 4 () { ret (); }
	block 6 () { ret (); }
	block 16 () { ret (); }
	block 6 (int, handle 5, array 3, tuple 2 (handle 5, array 1), handle 4, handle 0, int, array 4) { ret (); }
}`)
	goesOn(t, s, free(4))
	wantHeld(t, s, 6, 0, 1, 2, 3, 5)
	return s
}

// right is a To that may be taken at landing.
func right() api.To { return to(1, regs(0, 1, 2, 3, 5), 1, 2, 3, 0) }

// endsBy are all ends that lead there, with what else they have being right.
func endsBy(x api.To) []api.End {
	return []api.End{jump(x), fork(0, x, right()), fork(6, right(), x), fork(0, x, x)}
}

func wantTo(t *testing.T, what string, x api.To, want int) {
	t.Helper()
	for _, e := range endsBy(x) {
		wantEnd(t, what, landing(t), e, want)
	}
}

// P11.3

func TestEachKindOfEnd(t *testing.T) {
	wantTo(t, "with regions and values", right(), 0)
	wantTo(t, "with regions alone", to(2, regs(0, 1, 2, 3, 5)), 0)
	wantTo(t, "in another order", to(2, regs(0, 1, 5, 2, 3)), 0)
	s := landing(t)
	wantEnd(t, "regions that are left", s, back(0, 5), api.ErrLeft)
	s = begun(t, "func 0 () -> () { block 0 () { ret (); } } func 2 (int, handle 0) -> (int, handle 0) { block 2 (int, handle 0) { ret (); } }")
	wantEnd(t, "back", s, back(0, 1), 0)
	wantEnd(t, "to the first block", s, jump(to(0, regs(0, 1), 0, 1)), 0)
	wantEnd(t, "back of the smallest", begun(t, smallest), back(), 0)
	wantEnd(t, "round and round", begun(t, smallest), jump(to(0, nil)), 0)
}

func TestTheFormOfAnEndIsToldFirst(t *testing.T) {
	for _, x := range []struct {
		e    api.End
		want int
	}{
		{api.End{}, api.ErrKind},
		{api.End{Op: api.ERet + 1, A: 99}, api.ErrKind},
		{api.End{Op: -1, Yes: right()}, api.ErrKind},
		{api.End{Op: api.EJump, A: 1, Yes: to(1, nil)}, api.ErrForm},
		{api.End{Op: api.EJump, Yes: to(1, nil), Args: []int{9}}, api.ErrForm},
		{api.End{Op: api.EJump, Yes: to(1, nil), No: right()}, api.ErrForm},
		{api.End{Op: api.ERet, Yes: to(0, regs(9)), Args: []int{99}}, api.ErrForm},
		{api.End{Op: api.ERet, Args: slices.Repeat([]int{99}, 9)}, api.ErrMany},
		{fork(99, right(), to(7, nil)), api.ErrRange},
		{fork(1, to(-1, nil), right()), api.ErrRange},
		{fork(1, to(1, make([]int, 17)), right()), api.ErrMany},
		{fork(99, right(), to(1, nil, make([]int, 9)...)), api.ErrMany},
		{fork(1, right(), to(7, nil)), api.ErrRange},
		{fork(0, to(1, nil), to(7, nil)), api.ErrRange},
	} {
		wantEnd(t, "form", landing(t), x.e, x.want)
	}
}

func TestWhatAnIfIsAskedBy(t *testing.T) {
	for _, a := range []int{0, 6} {
		wantEnd(t, "an int", landing(t), fork(a, right(), right()), 0)
	}
	for _, a := range []int{1, 2, 3, 4, 5, 7} {
		wantEnd(t, "no int", landing(t), fork(a, right(), right()), api.ErrType)
		wantEnd(t, "no int, ahead of Yes", landing(t), fork(a, to(1, nil), right()), api.ErrType)
	}
	for _, a := range append(wild(), 8, 9, api.MaxValues) {
		wantEnd(t, "no value", landing(t), fork(a, right(), right()), api.ErrRange)
		wantEnd(t, "no value, ahead of Yes", landing(t), fork(a, to(1, nil), to(1, nil)), api.ErrRange)
	}
}

// wrongTos has one To for each code, the code being its own alone.
func wrongTos() map[int]api.To {
	return map[int]api.To{
		api.ErrMany:  to(1, regs(0, 1, 2, 3)),
		api.ErrKept:  to(1, regs(1, 0, 2, 3, 5), 1, 2, 3, 0),
		api.ErrHeld:  to(1, regs(0, 1, 2, 3, 4), 1, 2, 3, 0),
		api.ErrTwice: to(1, regs(0, 1, 2, 3, 3), 1, 2, 3, 0),
		api.ErrLeft:  to(3, regs(0, 1, 2, 3)),
		api.ErrRange: to(1, regs(0, 1, 2, 3, 5), 1, 2, 3, 8),
		api.ErrType:  to(1, regs(0, 1, 2, 3, 5), 1, 2, 3, 1),
	}
}

func TestEachCodeOfATo(t *testing.T) {
	for want, x := range wrongTos() {
		wantTo(t, "a To", x, want)
	}
}

func TestYesIsToldAheadOfNo(t *testing.T) {
	for yes, x := range wrongTos() {
		for _, y := range wrongTos() {
			wantEnd(t, "both wrong", landing(t), fork(0, x, y), yes)
		}
	}
}

func TestAToCountsItsRegions(t *testing.T) {
	for b, n := range map[int]int{0: 2, 1: 5, 2: 5, 3: 4, 4: 6, 5: 16, 6: 6} {
		for many := range api.MaxRegions + 1 {
			if many == n {
				continue
			}
			wantTo(t, fmt.Sprint(many, " regions instead of ", n), to(b, upTo(many)), api.ErrMany)
			wantTo(t, fmt.Sprint(many, " times -1 instead of ", n), to(b, slices.Repeat([]int{-1}, many), 99), api.ErrMany)
		}
	}
	wantTo(t, "all that are held, but too few", to(4, regs(0, 1, 2, 3, 5)), api.ErrMany)
	wantTo(t, "all that are held, but too many", to(3, regs(0, 1, 2, 3, 5)), api.ErrMany)
}

func TestAToKeepsTheFunctionsRegions(t *testing.T) {
	for at := range 2 {
		for _, r := range append(wild(), 2, 3, 4, 5, 6, api.MaxRegions, 1-at) {
			list := regs(0, 1, 2, 3, 5)
			list[at] = r
			wantTo(t, "another region", to(1, list, 1, 2, 3, 0), api.ErrKept)
			list[4] = 4
			wantTo(t, "another region, and one that is not held", to(1, list, 99), api.ErrKept)
		}
	}
	wantTo(t, "all held, but exchanged", to(1, regs(0, 2, 1, 3, 5), 1, 2, 3, 0), api.ErrKept)
	wantTo(t, "all held, but moved", to(1, regs(5, 0, 1, 2, 3), 1, 2, 3, 0), api.ErrKept)
	s := begun(t, "func 0 () -> () { block 0 () { ret (); } block 2 (handle 0, handle 1) { ret (); } }")
	wantEnd(t, "a function without regions keeps none", s, jump(to(1, regs(1, 0), 1, 0)), 0)
}

func TestAToHandsAllRegionsOn(t *testing.T) {
	for at := 2; at < 5; at++ {
		for _, r := range append(wild(), 4, 6, 7, api.MaxRegions-1, api.MaxRegions) {
			list := regs(0, 1, 2, 3, 5)
			list[at] = r
			wantTo(t, "not held", to(1, list, 1, 2, 3, 0), api.ErrHeld)
			wantTo(t, "not held, and the Args wrong", to(1, list), api.ErrHeld)
		}
		for ahead := range at {
			list := regs(0, 1, 2, 3, 5)
			list[at] = list[ahead]
			wantTo(t, "twice", to(1, list, 1, 2, 3, 0), api.ErrTwice)
			wantTo(t, "twice, and the Args wrong", to(1, list, 99), api.ErrTwice)
		}
	}
	wantTo(t, "twice, then not held", to(1, regs(0, 1, 2, 2, 9)), api.ErrTwice)
	wantTo(t, "not held, then twice", to(1, regs(0, 1, 9, 2, 2)), api.ErrHeld)
	wantTo(t, "not held, and one is left", to(3, regs(0, 1, 2, 4)), api.ErrHeld)
	for _, list := range [][]int{{0, 1, 2, 3}, {0, 1, 5, 2}, {0, 1, 3, 5}} {
		wantTo(t, "left", to(3, list), api.ErrLeft)
		wantTo(t, "left, and the Args wrong", to(3, list, 99), api.ErrLeft)
	}
	wantTo(t, "the function's alone", to(0, regs(0, 1), 0, 5), api.ErrLeft)
}

func TestAToCountsItsArgs(t *testing.T) {
	for n := range api.MaxParams + 1 {
		if n != 4 {
			wantTo(t, fmt.Sprint(n, " values"), to(1, regs(0, 1, 2, 3, 5), upTo(n)...), api.ErrMany)
			wantTo(t, fmt.Sprint(n, " values that are none"), to(1, regs(0, 1, 2, 3, 5), slices.Repeat([]int{99}, n)...), api.ErrMany)
		}
		if n != 0 {
			wantTo(t, fmt.Sprint(n, " values for none"), to(2, regs(0, 1, 2, 3, 5), upTo(n)...), api.ErrMany)
		}
	}
}

func TestAToHandsOverValuesOfTheParamsTypes(t *testing.T) {
	good := [][]int{{1}, {2}, {3}, {0, 6}}
	for at := range good {
		args := []int{1, 2, 3, 0}
		for _, a := range append(wild(), 8, 9, api.MaxValues) {
			args[at] = a
			wantTo(t, "no such value", to(1, regs(0, 1, 2, 3, 5), args...), api.ErrRange)
		}
		for a := range 8 {
			args[at] = a
			want := api.ErrType
			if slices.Contains(good[at], a) {
				want = 0
			}
			wantTo(t, fmt.Sprint("the value ", a, " at ", at), to(1, regs(0, 1, 2, 3, 5), args...), want)
		}
	}
	wantTo(t, "the first wrong one", to(1, regs(0, 1, 2, 3, 5), 2, 99, 3, 0), api.ErrType)
	wantTo(t, "the first wrong one", to(1, regs(0, 1, 2, 3, 5), 99, 1, 3, 0), api.ErrRange)
}

// The block's region i is Regs[i]: what is right under its own numbers is not under those, and the other way round.
func TestAToNamesTheRegionsAnew(t *testing.T) {
	wantTo(t, "2 and 3 exchanged", to(1, regs(0, 1, 3, 2, 5), 1, 2, 3, 0), api.ErrType)
	wantTo(t, "5 at another place", to(1, regs(0, 1, 5, 2, 3), 1, 2, 3, 0), api.ErrType)
	s := begun(t, `
func 0 () -> () {
	block 0 () { ret (); }
	block 3 (handle 0, array 1, tuple 2 (handle 1, tuple 0 (array 2))) { ret (); }
	block 3 (handle 1, array 2, tuple 0 (handle 2, tuple 1 (array 0))) { ret (); }
}`)
	wantEnd(t, "as they are", s, jump(to(2, regs(0, 1, 2), 0, 1, 2)), 0)
	wantEnd(t, "turned round", s, jump(to(1, regs(1, 2, 0), 0, 1, 2)), 0)
	wantEnd(t, "turned round the other way", s, jump(to(1, regs(2, 0, 1), 0, 1, 2)), api.ErrType)
	wantEnd(t, "as they are, to the other one", s, jump(to(1, regs(0, 1, 2), 0, 1, 2)), api.ErrType)
	wantEnd(t, "one each way", s, fork(0, to(1, regs(1, 2, 0), 0, 1, 2), to(2, regs(0, 1, 2), 0, 1, 2)), api.ErrType)
	goesOn(t, s, num(1))
	wantEnd(t, "one each way", s, fork(3, to(1, regs(1, 2, 0), 0, 1, 2), to(2, regs(0, 1, 2), 0, 1, 2)), 0)
}

func TestTheMostRegionsAreHandedOn(t *testing.T) {
	s := begun(t, "func 0 () -> () { block 0 () { ret (); } block 16 (handle 15, array 0) { ret (); } }")
	turned := slices.Clone(upTo(16))
	slices.Reverse(turned)
	wantEnd(t, "as they are", s, jump(to(1, upTo(16), 0, 1)), 0)
	wantEnd(t, "turned round", s, jump(to(1, turned, 0, 1)), api.ErrType)
	wantEnd(t, "one is left", s, jump(to(0, nil)), api.ErrLeft)
}

func TestWhatGoesBackIsOfTheResultsTypes(t *testing.T) {
	s := begun(t, `
func 0 () -> () { block 0 () { ret (); } }
func 2 (int) -> (int, handle 1, tuple 0 (array 1)) {
	block 2 (int) { ret (); }
	block 2 (int, handle 1, tuple 0 (array 1), handle 0, tuple 1 (array 1), tuple 0 (array 0), array 1, int) { ret (); }
}`)
	wantEnd(t, "right", s, back(0, 1, 2), 0)
	for n := range api.MaxParams + 1 {
		if n != 3 {
			wantEnd(t, fmt.Sprint(n, " values"), s, back(upTo(n)...), api.ErrMany)
			wantEnd(t, fmt.Sprint(n, " values that are none"), s, back(slices.Repeat([]int{99}, n)...), api.ErrMany)
		}
	}
	good := [][]int{{0, 7}, {1}, {2}}
	for at := range good {
		args := []int{0, 1, 2}
		for _, a := range append(wild(), 8, 9, api.MaxValues) {
			args[at] = a
			wantEnd(t, "no such value", s, back(args...), api.ErrRange)
		}
		for a := range 8 {
			args[at] = a
			want := api.ErrType
			if slices.Contains(good[at], a) {
				want = 0
			}
			wantEnd(t, fmt.Sprint("the value ", a, " at ", at), s, back(args...), want)
		}
	}
	wantEnd(t, "the first wrong one", s, back(1, 99, 2), api.ErrType)
	wantEnd(t, "the first wrong one", s, back(99, 0, 2), api.ErrRange)
}

func TestARegionThatIsLeft(t *testing.T) {
	const text = "func 0 () -> () { block 0 () { ret (); } } func 2 (int) -> (int) { block 2 (int) { ret (); } block 4 (int, handle 2, handle 3) { ret (); } }"
	s := begun(t, text)
	wantEnd(t, "two left", s, back(0), api.ErrLeft)
	goesOn(t, s, free(1))
	wantEnd(t, "one left", s, back(0), api.ErrLeft)
	wantEnd(t, "too few, ahead of left", s, back(), api.ErrMany)
	wantEnd(t, "no value, ahead of left", s, back(9), api.ErrRange)
	wantEnd(t, "another type, ahead of left", s, back(1), api.ErrType)
	goesOn(t, s, free(2))
	wantEnd(t, "none left", s, back(0), 0)
	goesOn(t, s, fresh())
	wantEnd(t, "a new one left", s, back(0), api.ErrLeft)
	goesOn(t, s, free(3))
	wantEnd(t, "none left again", s, back(0), 0)
	s = goesOn(t, begun(t, text), free(2))
	wantEnd(t, "the other one left", s, back(0), api.ErrLeft)
}

func TestBehindAnEndItGoesOn(t *testing.T) {
	s := landing(t)
	for range 3 {
		wantEnd(t, "right", s, jump(right()), 0)
		wantEnd(t, "wrong", s, jump(to(1, nil)), api.ErrMany)
		wantEnd(t, "back", s, back(0, 5), api.ErrLeft)
		goesOn(t, s, num(1))
	}
	wantMade(t, s, get(3, 1), "array 1")
}
