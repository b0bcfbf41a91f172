package judge

import (
	"fmt"
	"slices"
	"testing"

	"copyhold/api"
)

// caller has the regions 0 to 5, of which 0 is the function's and 4 was freed; the function 1 is one to be called.
func caller(t *testing.T) *State {
	t.Helper()
	s := begun(t, `
func 0 () -> () { block 0 () { ret (); } }
func 3 (handle 1, array 0, int, tuple 2 (int, handle 1, tuple 0 (array 2))) -> (tuple 1 (array 0, int), int, handle 2) {
	block 3 (handle 1, array 0, int, tuple 2 (int, handle 1, tuple 0 (array 2))) { ret (); } }
func 1 () -> () {
	block 1 () { ret (); }
	block 6 (handle 2, array 5, int, tuple 3 (int, handle 2, tuple 5 (array 3)), handle 4, array 3, handle 5, array 4) { ret (); }
}`)
	return goesOn(t, s, free(4))
}

// P11.2: ICall

func TestACallOfRegionsByOtherNames(t *testing.T) {
	s := caller(t)
	wantMade(t, s, call(1, regs(5, 2, 3), 0, 1, 2, 3), "tuple 2 (array 5, int)", "int", "handle 3")
	wantHeld(t, s, 6, 0, 1, 2, 3, 5)
	wantMade(t, s, get(8, 0), "array 5")
	goesOn(t, s, free(10))
	wantHeld(t, s, 6, 0, 1, 2, 5)
	wantIns(t, "a region that was freed", s, call(1, regs(5, 2, 3), 0, 1, 2, 3), api.ErrHeld)
}

func TestARegionOfTheFunctionsMayBeLent(t *testing.T) {
	s := begun(t, `
func 0 () -> () { block 0 () { ret (); } }
func 2 (handle 0, handle 1) -> (handle 1, array 0) { block 2 (handle 0, handle 1) { ret (); } }`)
	wantMade(t, s, call(1, regs(1, 0), 1, 0), "handle 0", "array 1")
	wantMade(t, s, call(1, regs(0, 1), 2, 1), "handle 1", "array 0")
	wantIns(t, "named as before", s, call(1, regs(1, 0), 0, 1), api.ErrType)
}

func TestACallCountsItsRegions(t *testing.T) {
	for n := range api.MaxRegs + 1 {
		if n != 3 {
			wantIns(t, fmt.Sprint(n, " regions"), caller(t), call(1, upTo(n), 0, 1, 2, 3), api.ErrMany)
			wantIns(t, fmt.Sprint(n, " regions that are none"), caller(t), call(1, slices.Repeat([]int{4}, n), 99), api.ErrMany)
		}
	}
	for n := 1; n <= api.MaxRegs; n++ {
		wantIns(t, "a function without regions", caller(t), call(0, upTo(n)), api.ErrMany)
	}
	wantMade(t, caller(t), call(0, nil))
}

func TestACallsRegionsAreHeld(t *testing.T) {
	for at := range 3 {
		for _, r := range append(wild(), 4, 6, 7, api.MaxRegions-1, api.MaxRegions) {
			list := regs(5, 2, 3)
			list[at] = r
			wantIns(t, "not held", caller(t), call(1, list, 0, 1, 2, 3), api.ErrHeld)
			wantIns(t, "not held, and the Args wrong", caller(t), call(1, list, 99), api.ErrHeld)
		}
	}
}

func TestACallsRegionsAreNotTheSame(t *testing.T) {
	for _, list := range [][]int{{5, 5, 3}, {5, 2, 5}, {5, 2, 2}, {0, 0, 0}, {3, 3, 9}, {3, 3, 4}} {
		wantIns(t, "twice", caller(t), call(1, list, 0, 1, 2, 3), api.ErrTwice)
		wantIns(t, "twice, and the Args wrong", caller(t), call(1, list), api.ErrTwice)
	}
	for _, list := range [][]int{{4, 5, 5}, {5, 4, 5}, {5, 9, 5}, {9, 9, 5}, {-1, -1, -1}} {
		wantIns(t, "not held, ahead of twice", caller(t), call(1, list, 0, 1, 2, 3), api.ErrHeld)
	}
}

func TestACallCountsItsArgs(t *testing.T) {
	for n := range api.MaxParams + 1 {
		if n != 4 {
			wantIns(t, fmt.Sprint(n, " values"), caller(t), call(1, regs(5, 2, 3), upTo(n)...), api.ErrMany)
			wantIns(t, fmt.Sprint(n, " values that are none"), caller(t), call(1, regs(5, 2, 3), slices.Repeat([]int{99}, n)...), api.ErrMany)
		}
	}
	for n := 1; n <= api.MaxParams; n++ {
		wantIns(t, "a function without parameters", caller(t), call(0, nil, upTo(n)...), api.ErrMany)
	}
}

func TestACallsArgsAreOfTheParamsTypes(t *testing.T) {
	right := []int{0, 1, 2, 3}
	for at := range right {
		args := slices.Clone(right)
		for _, a := range append(wild(), 8, 9, api.MaxValues) {
			args[at] = a
			wantIns(t, "no such value", caller(t), call(1, regs(5, 2, 3), args...), api.ErrRange)
		}
		for a := range 8 {
			args[at] = a
			want := api.ErrType
			if a == right[at] {
				want = 0
			}
			wantIns(t, fmt.Sprint("the value ", a, " at ", at), caller(t), call(1, regs(5, 2, 3), args...), want)
		}
	}
}

func TestACallsArgsUnderOtherRegions(t *testing.T) {
	for _, list := range [][]int{{2, 5, 3}, {3, 2, 5}, {5, 3, 2}, {0, 2, 3}, {5, 2, 1}} {
		wantIns(t, "other regions", caller(t), call(1, list, 0, 1, 2, 3), api.ErrType)
	}
}

func TestTheFirstWrongArgIsTold(t *testing.T) {
	for _, x := range []struct {
		args []int
		want int
	}{{[]int{1, 99, 2, 3}, api.ErrType}, {[]int{99, 0, 2, 3}, api.ErrRange}, {[]int{0, 1, 3, -1}, api.ErrType}, {[]int{0, 1, -1, 2}, api.ErrRange}, {[]int{0, 7, 99, 99}, api.ErrType}} {
		wantIns(t, "two wrong", caller(t), call(1, regs(5, 2, 3), x.args...), x.want)
	}
}

func TestACallMakesNoMoreThanMaxValues(t *testing.T) {
	x := call(1, regs(5, 2, 3), 0, 1, 2, 3)
	s := fill(t, caller(t), api.MaxValues-3)
	wantMade(t, s, x, "tuple 2 (array 5, int)", "int", "handle 3")
	for n := api.MaxValues - 2; n <= api.MaxValues; n++ {
		s = fill(t, caller(t), n)
		wantIns(t, fmt.Sprint(n, " values"), s, x, api.ErrMany)
		wantMade(t, s, call(0, nil))
	}
}

func TestACallOfTheMostRegionsValuesAndResults(t *testing.T) {
	const most = "int, handle 5, handle 4, handle 3, handle 2, handle 1, handle 0, array 5"
	s := begun(t, "func 0 () -> () { block 0 () { ret (); } } func 6 ("+most+") -> ("+most+") { block 6 ("+most+") { ret (); } block 12 (int, handle 6, handle 7, handle 8, handle 9, handle 10, handle 11, array 6) { ret (); } }")
	for n := 8; n <= api.MaxValues-8; n += 8 {
		wantMade(t, s, call(1, regs(11, 10, 9, 8, 7, 6), 0, 1, 2, 3, 4, 5, 6, 7), "int", "handle 6", "handle 7", "handle 8", "handle 9", "handle 10", "handle 11", "array 6")
	}
	wantIns(t, "8 too many", s, call(1, regs(11, 10, 9, 8, 7, 6), 0, 1, 2, 3, 4, 5, 6, 7), api.ErrMany)
}

func TestAFunctionMayCallItselfAndTheFirst(t *testing.T) {
	s := begun(t, "func 0 () -> (int, int) { block 0 () { ret (); } }")
	wantMade(t, s, call(0, nil), "int", "int")
	s = begun(t, "func 0 () -> (int) { block 0 () { ret (); } } func 1 (int) -> (handle 0) { block 1 (int) { ret (); } }")
	wantMade(t, s, call(0, nil), "int")
	wantMade(t, s, call(1, regs(0), 1), "handle 0")
	goesOn(t, s, fresh())
	wantMade(t, s, call(1, regs(1), 1), "handle 1")
	wantIns(t, "a handle of a region that was lent is still the function's", s, free(2), api.ErrKept)
	goesOn(t, s, free(4))
	wantIns(t, "by either handle", s, free(3), api.ErrHeld)
}
