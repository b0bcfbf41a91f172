package judge

import (
	"fmt"
	"slices"
	"testing"

	"copyhold/api"
)

// The values of hall, by what they are.
const (
	anInt      = 0
	keptHandle = 1 // of a region of the function's
	aHandle    = 2
	goneHandle = 3 // of a region that was freed
	anArray    = 4
	goneArray  = 5
	aTuple     = 6
	goneTuple  = 7
	noValue    = 8
)

// hall has a value of each sort. Of its regions 0 and 1 are the function's, 2 is held, 3 was freed.
func hall(t *testing.T) *State {
	t.Helper()
	s := begun(t, `
func 0 () -> (int) { block 0 () { ret (); } }
func 2 (int) -> (int) {
	block 2 (int) { ret (); }
	block 4 (int, handle 0, handle 2, handle 3, array 2, array 3, tuple 2 (int, array 3, handle 2, tuple 3 (int)), tuple 3 (int)) { ret (); }
}`)
	goesOn(t, s, free(goneHandle))
	wantHeld(t, s, 4, 0, 1, 2)
	return s
}

func others(list ...int) []int {
	return slices.DeleteFunc(upTo(noValue), func(a int) bool { return slices.Contains(list, a) })
}

func beyond() []int { return append(wild(), noValue, noValue+1, api.MaxValues) }

// fieldTest: what a field of an instruction must be; x puts a value into it, with all that stands ahead of it being right.
type fieldTest struct {
	what  string
	x     func(a int) api.Ins
	right []int
	gone  []int // of the right kind, but of a region that is not held
}

// wantField holds of each value in the field: ErrRange, ErrType, ErrHeld, or none of them.
func wantField(t *testing.T, f fieldTest) {
	t.Helper()
	for _, a := range beyond() {
		wantIns(t, f.what+": no such value", hall(t), f.x(a), api.ErrRange)
	}
	for _, a := range others(append(f.right, f.gone...)...) {
		wantIns(t, f.what+": of another type", hall(t), f.x(a), api.ErrType)
	}
	for _, a := range f.gone {
		wantIns(t, f.what+": not held", hall(t), f.x(a), api.ErrHeld)
	}
	for _, a := range f.right {
		wantIns(t, f.what, hall(t), f.x(a), 0)
	}
}

// P11.2

func TestWhatEachFieldMustBe(t *testing.T) {
	ints, handles, goneHandles := []int{anInt}, []int{keptHandle, aHandle}, []int{goneHandle}
	arrays, goneArrays, tuples, goneTuples := []int{anArray}, []int{goneArray}, []int{aTuple}, []int{goneTuple}
	for _, f := range []fieldTest{
		{"bin A", func(a int) api.Ins { return bin(a, anInt) }, ints, nil},
		{"bin B", func(b int) api.Ins { return bin(anInt, b) }, ints, nil},
		{"bin A and B", func(a int) api.Ins { return bin(a, a) }, ints, nil},
		{"tuple A", func(a int) api.Ins { return tuple(a) }, handles, goneHandles},
		{"tuple A with Args", func(a int) api.Ins { return tuple(a, anInt, aTuple) }, handles, goneHandles},
		{"get A", func(a int) api.Ins { return get(a, 0) }, tuples, goneTuples},
		{"set A", func(a int) api.Ins { return set(a, 0, anInt) }, tuples, goneTuples},
		{"set B, an int", func(b int) api.Ins { return set(aTuple, 0, b) }, ints, nil},
		{"set B, an array", func(b int) api.Ins { return set(aTuple, 1, b) }, goneArrays, nil},
		{"set B, a handle", func(b int) api.Ins { return set(aTuple, 2, b) }, []int{aHandle}, nil},
		{"set B, a tuple", func(b int) api.Ins { return set(aTuple, 3, b) }, goneTuples, nil},
		{"array A", func(a int) api.Ins { return array(a, anInt) }, handles, goneHandles},
		{"array B", func(b int) api.Ins { return array(aHandle, b) }, ints, nil},
		{"load A", func(a int) api.Ins { return load(a, anInt) }, arrays, goneArrays},
		{"load B", func(b int) api.Ins { return load(anArray, b) }, ints, nil},
		{"store A", func(a int) api.Ins { return store(a, anInt, anInt) }, arrays, goneArrays},
		{"store B", func(b int) api.Ins { return store(anArray, b, anInt) }, ints, nil},
		{"store C", func(c int) api.Ins { return store(anArray, anInt, c) }, ints, nil},
		{"len A", length, arrays, goneArrays},
		{"out A", out, ints, nil},
	} {
		wantField(t, f)
	}
}

func TestWhatFreeAsks(t *testing.T) {
	for _, a := range beyond() {
		wantIns(t, "no such value", hall(t), free(a), api.ErrRange)
	}
	for _, a := range others(keptHandle, aHandle, goneHandle) {
		wantIns(t, "no handle", hall(t), free(a), api.ErrType)
	}
	wantIns(t, "freed already", hall(t), free(goneHandle), api.ErrHeld)
	wantIns(t, "the function's", hall(t), free(keptHandle), api.ErrKept)
	s := hall(t)
	wantMade(t, s, free(aHandle))
	wantHeld(t, s, 4, 0, 1)
	wantIns(t, "freed just now", s, free(aHandle), api.ErrHeld)
}

func TestWhatArgsOfATupleMustBe(t *testing.T) {
	for at := range api.MaxFields {
		args := make([]int, api.MaxFields)
		for _, a := range upTo(noValue) {
			args[at] = a
			wantIns(t, "a value", hall(t), tuple(aHandle, args...), 0)
		}
		for _, a := range beyond() {
			args[at] = a
			wantIns(t, "no such value", hall(t), tuple(aHandle, args...), api.ErrRange)
		}
	}
}

func TestWhichFieldsATupleHas(t *testing.T) {
	for k := range 4 {
		goesOn(t, hall(t), get(aTuple, k))
	}
	for k := 4; k < api.MaxFields; k++ {
		wantIns(t, "get of no field", hall(t), get(aTuple, k), api.ErrType)
		for _, b := range append(beyond(), upTo(noValue)...) {
			wantIns(t, "set of no field", hall(t), set(aTuple, k, b), api.ErrType)
		}
	}
	s := goesOn(t, hall(t), tuple(aHandle))
	for k := range api.MaxFields {
		wantIns(t, "a tuple without fields", s, get(noValue, k), api.ErrType)
		wantIns(t, "a tuple without fields", s, set(noValue, k, anInt), api.ErrType)
	}
}

func TestWhatIsMade(t *testing.T) {
	wantMade(t, hall(t), num(-5), "int")
	wantMade(t, hall(t), comesIn(), "int")
	wantMade(t, hall(t), bin(anInt, anInt), "int")
	wantMade(t, hall(t), fresh(), "handle 4")
	wantMade(t, hall(t), free(aHandle))
	wantMade(t, hall(t), tuple(keptHandle), "tuple 0 ()")
	wantMade(t, hall(t), tuple(aHandle, aTuple, anInt, goneHandle), "tuple 2 (tuple 2 (int, array 3, handle 2, tuple 3 (int)), int, handle 3)")
	wantMade(t, hall(t), tuple(keptHandle, anInt, anInt, anInt, anInt, anInt, anInt, anInt, anArray), "tuple 0 (int, int, int, int, int, int, int, array 2)")
	for k, want := range []string{"int", "array 3", "handle 2", "tuple 3 (int)"} {
		wantMade(t, hall(t), get(aTuple, k), want)
	}
	for k, b := range []int{anInt, goneArray, aHandle, goneTuple} {
		wantMade(t, hall(t), set(aTuple, k, b))
	}
	wantMade(t, hall(t), array(keptHandle, anInt), "array 0")
	wantMade(t, hall(t), array(aHandle, anInt), "array 2")
	wantMade(t, hall(t), load(anArray, anInt), "int")
	wantMade(t, hall(t), store(anArray, anInt, anInt))
	wantMade(t, hall(t), length(anArray), "int")
	wantMade(t, hall(t), out(anInt))
	wantMade(t, hall(t), call(0, nil), "int")
}

func TestWhichRegionsAreHeldBehindEachKind(t *testing.T) {
	for _, x := range []api.Ins{num(1), comesIn(), bin(0, 0), tuple(2, 3), get(6, 1), set(6, 0, 0), array(2, 0), load(4, 0), store(4, 0, 0), length(4), out(0), call(0, nil), call(1, regs(2, 0), 0)} {
		s := hall(t)
		goesOn(t, s, x)
		wantHeld(t, s, 4, 0, 1, 2)
	}
	s := hall(t)
	goesOn(t, s, fresh())
	wantHeld(t, s, 5, 0, 1, 2, 4)
	goesOn(t, s, fresh(), free(8))
	wantHeld(t, s, 6, 0, 1, 2, 5)
	goesOn(t, s, free(9), free(aHandle))
	wantHeld(t, s, 6, 0, 1)
}

func TestEachArithmetic(t *testing.T) {
	for k := api.KAdd; k <= api.KXor; k++ {
		wantMade(t, hall(t), api.Ins{Op: api.IBin, A: anInt, B: anInt, K: k}, "int")
		wantIns(t, "a handle", hall(t), api.Ins{Op: api.IBin, A: aHandle, B: anInt, K: k}, api.ErrType)
	}
}

func TestTheFormIsToldFirst(t *testing.T) {
	for _, x := range []struct {
		x    api.Ins
		want int
	}{
		{api.Ins{}, api.ErrKind},
		{api.Ins{Op: -1, A: 99}, api.ErrKind},
		{api.Ins{Op: api.ICall + 1, A: goneHandle}, api.ErrKind},
		{api.Ins{Op: api.INum, A: 1}, api.ErrForm},
		{api.Ins{Op: api.IIn, Regs: []int{9}}, api.ErrForm},
		{api.Ins{Op: api.INew, N: 1}, api.ErrForm},
		{api.Ins{Op: api.IFree, A: goneHandle, B: 1}, api.ErrForm},
		{api.Ins{Op: api.IFree, A: 99, Args: []int{1}}, api.ErrForm},
		{api.Ins{Op: api.IBin, A: aHandle, B: 99}, api.ErrRange},
		{api.Ins{Op: api.IBin, A: aHandle, B: aHandle, K: api.KXor + 1}, api.ErrRange},
		{api.Ins{Op: api.IGet, A: anInt, K: api.MaxFields}, api.ErrRange},
		{api.Ins{Op: api.IGet, A: goneTuple, K: -1}, api.ErrRange},
		{api.Ins{Op: api.ISet, A: goneTuple, K: api.MaxFields}, api.ErrRange},
		{api.Ins{Op: api.ISet, A: 99, K: 9, C: 1}, api.ErrForm},
		{api.Ins{Op: api.ITuple, A: anInt, Args: make([]int, api.MaxFields+1)}, api.ErrMany},
		{api.Ins{Op: api.ITuple, A: goneHandle, Args: slices.Repeat([]int{99}, api.MaxFields+1)}, api.ErrMany},
		{api.Ins{Op: api.ICall, K: 2, Regs: []int{3}}, api.ErrRange},
		{api.Ins{Op: api.ICall, K: -1, Regs: make([]int, 9)}, api.ErrRange},
		{api.Ins{Op: api.ICall, K: 1, Regs: []int{3, 3, 3, 3, 3, 3, 3}}, api.ErrMany},
		{api.Ins{Op: api.ICall, K: 1, Regs: []int{3, 3}, Args: make([]int, api.MaxParams+1)}, api.ErrMany},
		{api.Ins{Op: api.ILen, A: goneArray, B: 1}, api.ErrForm},
		{api.Ins{Op: api.IOut, A: 99, C: 1}, api.ErrForm},
	} {
		wantIns(t, "form", hall(t), x.x, x.want)
	}
}

func TestTheLeftOneOfTwoFaultsIsTold(t *testing.T) {
	faulty := map[int][]int{api.ErrRange: {noValue, -1}, api.ErrType: {aHandle, aTuple}}
	for left, as := range faulty {
		for _, bs := range faulty {
			for i := range as {
				a, b := as[i], bs[1-i]
				wantIns(t, "bin", hall(t), bin(a, b), left)
				wantIns(t, "store B, C", hall(t), store(anArray, a, b), left)
			}
		}
	}
	for _, b := range []int{noValue, -1, aHandle} {
		for code, a := range map[int]int{api.ErrRange: noValue, api.ErrType: anInt, api.ErrHeld: goneHandle} {
			wantIns(t, "tuple A, Args", hall(t), tuple(a, noValue, b), code)
			wantIns(t, "array A, B", hall(t), array(a, b), code)
		}
		for code, a := range map[int]int{api.ErrRange: noValue, api.ErrType: anInt, api.ErrHeld: goneArray} {
			wantIns(t, "load A, B", hall(t), load(a, b), code)
			wantIns(t, "store A, B", hall(t), store(a, b, anInt), code)
			wantIns(t, "store A, C", hall(t), store(a, anInt, b), code)
			wantIns(t, "store A, B, C", hall(t), store(a, b, b), code)
		}
		for code, a := range map[int]int{api.ErrRange: noValue, api.ErrType: anInt, api.ErrHeld: goneTuple} {
			wantIns(t, "set A, B", hall(t), set(a, 0, b), code)
			wantIns(t, "set A, K", hall(t), set(a, 5, b), code)
			wantIns(t, "get A, K", hall(t), get(a, 5), code)
		}
	}
	wantIns(t, "set K, B", hall(t), set(aTuple, 4, noValue), api.ErrType)
	wantIns(t, "set B of a field that is there", hall(t), set(aTuple, 3, noValue), api.ErrRange)
}

// Same types at another region are other types.
func TestSetAsksForTheVeryType(t *testing.T) {
	s := begun(t, `
func 0 () -> () { block 0 () { ret (); }
block 2 (tuple 0 (handle 0, array 0, tuple 0 (int)), handle 1, array 1, tuple 1 (int), tuple 0 (), tuple 0 (int, int), tuple 0 (handle 0), tuple 0 (int)) { ret (); } }`)
	wantIns(t, "a handle of another region", s, set(0, 0, 1), api.ErrType)
	wantIns(t, "an array of another region", s, set(0, 1, 2), api.ErrType)
	for _, b := range []int{3, 4, 5, 6} {
		wantIns(t, "another tuple", s, set(0, 2, b), api.ErrType)
	}
	wantMade(t, s, set(0, 2, 7))
}

func TestNewGivesEachRegionTheNextNumber(t *testing.T) {
	for _, first := range []int{0, 1, 5, api.MaxRegions} {
		s := begun(t, fmt.Sprint("func 0 () -> () { block 0 () { ret (); } block ", first, " () { ret (); } }"))
		for r := first; r < api.MaxRegions; r++ {
			wantMade(t, s, fresh(), fmt.Sprint("handle ", r))
			wantHeld(t, s, r+1, upTo(r+1)...)
		}
		wantIns(t, "there were MaxRegions", s, fresh(), api.ErrMany)
		wantHeld(t, s, api.MaxRegions, upTo(api.MaxRegions)...)
	}
}

func TestRegionsThatWereFreedCount(t *testing.T) {
	s := begun(t, smallest)
	for r := range api.MaxRegions {
		wantMade(t, s, fresh(), fmt.Sprint("handle ", r))
		wantHeld(t, s, r+1, r)
		goesOn(t, s, free(r))
		wantHeld(t, s, r+1)
	}
	wantIns(t, "there were MaxRegions", s, fresh(), api.ErrMany)
	wantHeld(t, s, api.MaxRegions)
	wantEnd(t, "all freed", s, back(), 0)
}

func TestTuplesAndArraysAtTheLastRegion(t *testing.T) {
	s := begun(t, "func 0 () -> () { block 0 () { ret (); } block 15 () { ret (); } }")
	goesOn(t, s, fresh(), num(3))
	wantMade(t, s, array(0, 1), "array 15")
	wantMade(t, s, tuple(0, 2, 0), "tuple 15 (array 15, handle 15)")
	wantMade(t, s, get(3, 0), "array 15")
	wantMade(t, s, load(4, 1), "int")
}

// fill makes ints till there are so many values.
func fill(t *testing.T, s *State, n int) *State {
	t.Helper()
	for len(s.Types()) < n {
		goesOn(t, s, num(0))
	}
	return s
}

func TestThereAreNoMoreThanMaxValues(t *testing.T) {
	making := []api.Ins{num(1), comesIn(), bin(0, 0), fresh(), tuple(aHandle), tuple(aHandle, aTuple), get(aTuple, 0), get(aTuple, 3), array(aHandle, 0), load(anArray, 0), length(anArray), call(0, nil), call(1, regs(0, 2), 0)}
	for _, x := range making {
		s := fill(t, hall(t), api.MaxValues-1)
		goesOn(t, s, x)
		if got := len(s.Types()); got != api.MaxValues {
			t.Errorf("%+v: %d values, want %d", x, got, api.MaxValues)
		}
		for _, y := range making {
			wantIns(t, "one too many", s, y, api.ErrMany)
		}
	}
	s := fill(t, hall(t), api.MaxValues)
	for _, x := range []api.Ins{set(aTuple, 0, 0), store(anArray, 0, 79), out(79), free(aHandle)} {
		wantMade(t, s, x)
	}
	wantEnd(t, "back", s, back(79), 0)
}

func TestMaxValuesOfIntsInARow(t *testing.T) {
	s := begun(t, smallest)
	for range api.MaxValues {
		goesOn(t, s, comesIn())
	}
	wantTypes(t, s, slices.Repeat([]string{"int"}, api.MaxValues)...)
	wantIns(t, "one too many", s, comesIn(), api.ErrMany)
	wantIns(t, "a region too many", s, fresh(), api.ErrMany)
	wantHeld(t, s, 0)
	goesOn(t, s, out(79))
	wantIns(t, "no such value", s, out(80), api.ErrRange)
}

func TestManyIsToldAtLast(t *testing.T) {
	for _, x := range []struct {
		x    api.Ins
		want int
	}{
		{bin(aHandle, 0), api.ErrType}, {bin(0, 80), api.ErrRange}, {tuple(goneHandle), api.ErrHeld}, {tuple(aHandle, 80), api.ErrRange},
		{get(goneTuple, 0), api.ErrHeld}, {get(aTuple, 4), api.ErrType}, {array(aHandle, anArray), api.ErrType}, {array(goneHandle, 0), api.ErrHeld},
		{load(goneArray, 0), api.ErrHeld}, {load(anArray, 80), api.ErrRange}, {length(goneArray), api.ErrHeld},
		{call(1, regs(0, 3), 0), api.ErrHeld}, {call(1, regs(0, 0), 0), api.ErrTwice}, {call(1, regs(0, 1), 80), api.ErrRange}, {call(1, regs(0, 1), aHandle), api.ErrType},
		{api.Ins{Op: api.INum, A: 1}, api.ErrForm}, {api.Ins{Op: api.INew, A: 1}, api.ErrForm},
	} {
		wantIns(t, "with MaxValues values", fill(t, hall(t), api.MaxValues), x.x, x.want)
	}
	s := begun(t, "func 0 () -> () { block 0 () { ret (); } block 1 (handle 0, "+nestedText("int", api.MaxNested)+") { ret (); } }")
	wantIns(t, "too deep, and too many", fill(t, s, api.MaxValues), tuple(0, 1), api.ErrDeep)
}

func TestTypesAreNestedNoDeeperThanMayBe(t *testing.T) {
	for _, inner := range []api.Ins{num(1), fresh(), array(0, 1), tuple(0)} {
		s := goesOn(t, begun(t, smallest), fresh(), num(1), inner)
		text := texts(s)[2]
		for around := range api.MaxNested {
			wantMade(t, s, tuple(0, 1, 2+around, 1), "tuple 0 (int, "+text+", int)")
			text = texts(s)[3+around]
		}
		for at := range api.MaxFields {
			args := slices.Repeat([]int{1}, api.MaxFields)
			args[at] = 2 + api.MaxNested
			wantIns(t, "one deeper", s, tuple(0, args...), api.ErrDeep)
			args[at]--
			goesOn(t, s, tuple(0, args...))
		}
	}
}

func TestParamsAndResultsAreAsDeepAsMayBe(t *testing.T) {
	deep := nestedText("handle 0", api.MaxNested)
	s := begun(t, "func 0 () -> () { block 0 () { ret (); } } func 1 ("+deep+") -> ("+deep+") { block 1 ("+deep+") { ret (); } }")
	wantMade(t, s, call(1, regs(0), 0), deep)
	wantIns(t, "without Args", s, call(1, regs(0)), api.ErrMany)
	goesOn(t, s, fresh())
	wantIns(t, "one deeper", s, tuple(2, 1), api.ErrDeep)
	wantMade(t, s, get(1, 0), nestedText("handle 0", api.MaxNested-1))
	wantMade(t, s, tuple(2, 3), "tuple 1 ("+nestedText("handle 0", api.MaxNested-1)+")")
	wantIns(t, "what is wrong ahead of it", s, tuple(2, 1, 9), api.ErrRange)
}

func TestTheWidestTypes(t *testing.T) {
	s := goesOn(t, begun(t, smallest), fresh(), num(1))
	for around := range api.MaxNested {
		goesOn(t, s, tuple(0, slices.Repeat([]int{1 + around}, api.MaxFields)...))
	}
	last := 1 + api.MaxNested
	goesOn(t, s, get(last, 7), set(last, 0, last-1), set(last, 3, last+1))
	wantIns(t, "one deeper", s, tuple(0, last), api.ErrDeep)
	wantIns(t, "another type", s, set(last, 7, last-2), api.ErrType)
}

func TestLongRows(t *testing.T) {
	s := begun(t, smallest)
	for i := range 8 {
		first := 10 * i
		goesOn(t, s, fresh(), num(4), array(first, first+1), tuple(first, first+1, first+2), get(first+3, 1), load(first+4, first+1), length(first+2), bin(first+5, first+6), comesIn(), get(first+3, 0), store(first+4, first+8, first+7), set(first+3, 0, first+8), out(first+9), call(0, nil), free(first))
		wantIns(t, "freed", s, load(first+2, first+1), api.ErrHeld)
	}
	wantHeld(t, s, 8)
	wantIns(t, "a value more", s, num(1), api.ErrMany)
	for range 1000 {
		goesOn(t, s, out(1), call(0, nil))
	}
	wantEnd(t, "back", s, back(), 0)
}
