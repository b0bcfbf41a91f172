package twin

import (
	"fmt"
	"strings"
	"testing"

	"copyhold/api"
)

// Calls

func TestACallGivesBackItsResults(t *testing.T) {
	m := moduleOf(t, header(3)+`block 0 () { num 1; num 2; call 1 <> (0, 1); num 3; ret (2, 3, 4); } }
		func 0 (int, int) -> (int, int) { block 0 (int, int) { bin add 0 1; bin sub 0 1; ret (3, 2); } }`)
	wantBack(t, m, 8, -1, 3, 3)
}

func TestACallOfNothing(t *testing.T) {
	m := moduleOf(t, header(1)+`block 0 () { call 1 <> (); num 3; call 1 <> (); ret (0); } }
		func 0 () -> () { block 0 () { num 8; jump 1 <> (); } block 0 () { ret (); } }`)
	wantBack(t, m, 10, 3)
}

func TestACallOfAsMuchAsCanBe(t *testing.T) {
	params := "handle 0, handle 1, handle 2, handle 3, handle 4, handle 5, int, int"
	m := moduleOf(t, header(8)+`block 0 () { new; new; new; new; new; new; num 6; num 7; call 1 <5, 4, 3, 2, 1, 0> (5, 4, 3, 2, 1, 0, 6, 7);
		num 1; tuple 15 (16); array 14 16; len 18; tuple 8 (); free 0; free 1; free 2; free 3; free 4; free 5; ret (6, 7, 9, 10, 16, 16, 19, 19); } }
		func 6 (`+params+`) -> (handle 5, int, int, int, handle 0, handle 1, handle 2, handle 3)
		{ block 6 (`+params+`) { num 9; ret (5, 6, 7, 8, 0, 1, 2, 3); } }`)
	x := wantBack(t, m, 23, 6, 7, 6, 7, 1, 1, 1, 1)
	wantCounts(t, x, api.MaxPages, 0)
}

func TestTheCallerGoesOnWhereItWas(t *testing.T) {
	m := moduleOf(t, header(2)+`block 0 () { in; jump 1 <> (0); } block 0 (int) { call 2 <> (0); call 2 <> (1); call 1 <> (2); ret (2, 3); } }
		func 0 (int) -> (int) { block 0 (int) { num 100; call 2 <> (0); bin add 1 2; ret (3); } }
		func 0 (int) -> (int) { block 0 (int) { jump 1 <> (0); } block 0 (int) { num 2; bin mul 0 1; ret (2); } }`)
	wantRun(t, m, []int64{5}, 99, 0, api.Outcome{Back: []int64{20, 140}, Fuel: 2 + 5 + 5 + 9 + 1})
}

func TestRegionsAreLentAndComeBack(t *testing.T) {
	m := moduleOf(t, header(2)+`block 0 () { new; num 2; call 1 <0> (0, 1); len 2; load 2 4; free 3; ret (5, 6); } }
		func 1 (handle 0, int) -> (array 0, handle 0, int) { block 1 (handle 0, int) { array 0 1; new; num 0; num 7; store 2 4 5; free 3; ret (2, 0, 4); } }`)
	x := wantBack(t, m, 14, 2, 7)
	wantCounts(t, x, api.MaxPages, 0)
}

func TestARegionOfACallIsGoneBehindIt(t *testing.T) {
	// what the second call makes stands where the first one's was, which its caller still has as a number
	m := moduleOf(t, header(1)+`block 0 () { new; num 5; tuple 0 (1); call 1 <> (); call 1 <> (); new; tuple 3 (0, 3); free 3; get 2 0; free 0; ret (5); } }
		func 0 () -> () { block 0 () { new; num 8; tuple 0 (1, 1, 1); free 0; ret (); } }`)
	x := begunAndDone(t, m, 2, 3)
	for range 2 {
		for _, want := range [][2]int{{1, 1}, {1, 2}, {1, 2}, {0, 2}, {1, 1}, {1, 1}} {
			goOn(t, x)
			wantCounts(t, x, want[0], want[1])
		}
	}
	wantRun(t, m, nil, 99, 2, api.Outcome{Back: []int64{5}, Fuel: 3 + 12 + 6})
}

func TestWhatACallDoesToAThingStays(t *testing.T) {
	m := moduleOf(t, header(2)+`block 0 () { new; num 1; tuple 0 (1, 1); call 1 <0> (2); get 2 0; get 2 1; free 0; ret (3, 4); } }
		func 1 (tuple 0 (int, int)) -> () { block 1 (tuple 0 (int, int)) { num 8; set 0 1 1; ret (); } }`)
	wantBack(t, m, 11, 1, 8)
}

func TestAFunctionTakesItsCallersRegionForItsOwnName(t *testing.T) {
	// the region 1 of the caller is the region 0 of the function; its own is the region 1
	m := moduleOf(t, header(2)+`block 0 () { new; new; num 6; call 1 <1> (1, 2); get 3 0; free 0; call 1 <1> (1, 4); get 5 0; free 1; ret (4, 6); } }
		func 1 (handle 0, int) -> (tuple 0 (int)) { block 1 (handle 0, int) { new; num 1; bin add 1 3; tuple 2 (4); get 5 0; free 2; tuple 0 (6); ret (7); } }`)
	x := begunAndDone(t, m, 3, 8)
	wantCounts(t, x, 2, 3)
	x = wantRun(t, m, nil, 99, 3, api.Outcome{Back: []int64{7, 8}, Fuel: 4 + 8 + 3 + 8 + 3})
	wantCounts(t, x, 3, 0)
}

// deep calls itself as often as the number that comes in tells, and counts the calls on the way back.
const deep = `
func 0 () -> (int) { block 0 () { in; call 1 <> (0); ret (1); } }
func 0 (int) -> (int) {
	block 0 (int) { if 0 to 1 <> (0) else 2 <> (); }
	block 0 (int) { num 1; bin sub 0 1; call 1 <> (2); bin add 3 1; ret (4); }
	block 0 () { num 0; ret (0); }
}
`

func TestCallsInCalls(t *testing.T) {
	m := moduleOf(t, deep)
	for _, n := range []int{0, 1, 2, 20, api.MaxFrames - 3, api.MaxFrames - 2} {
		// so many calls of the function 1, and one more: with the first one n + 2 are open at once
		steps := 2 + n*6 + 3 + 1
		wantRun(t, m, []int64{int64(n)}, 999, 0, api.Outcome{Back: []int64{int64(n)}, Fuel: steps})
	}
	for _, n := range []int{api.MaxFrames - 1, api.MaxFrames, 1000} {
		// the call that would be one too many is the last step
		steps := 2 + (api.MaxFrames-1)*4
		wantRun(t, m, []int64{int64(n)}, 999, 0, api.Outcome{End: api.EndDepth, Fuel: steps})
	}
}

func TestCallsBehindEachOtherAreNotDeep(t *testing.T) {
	m := moduleOf(t, header(0)+`block 0 () { `+repeated("call 1 <> ();", api.MaxCode)+`jump 1 <> (); } block 0 () { `+repeated("call 1 <> ();", api.MaxCode)+`ret (); } }
		func 0 () -> () { block 0 () { ret (); } }`)
	wantBack(t, m, 4*api.MaxCode+2)
}

func TestCallsInCallsWithRegions(t *testing.T) {
	// each call writes into the region of the first one, and into one of its own; so many are open that each region there may be is there
	m := moduleOf(t, header(1)+`block 0 () { new; in; tuple 0 (1); call 1 <0> (0, 1, 2); get 2 0; free 0; ret (3); } }
		func 1 (handle 0, int, tuple 0 (int)) -> () {
			block 1 (handle 0, int, tuple 0 (int)) { if 1 to 1 <0> (0, 1, 2) else 2 <0> (2); }
			block 1 (handle 0, int, tuple 0 (int)) { new; num 1; bin sub 1 4; tuple 3 (5, 3); call 1 <0> (0, 5, 2); get 6 0; get 2 0; bin add 7 8; set 2 0 9; free 3; ret (); }
			block 1 (tuple 0 (int)) { ret (); }
		}`)
	for n := range int64(api.MaxRegions) {
		// n + (n - 1) + .. + 0
		want := api.Outcome{Back: []int64{n + n*(n-1)/2}, Fuel: int(4 + n*12 + 2 + 3)}
		wantRun(t, m, []int64{n}, 9999, api.MaxRegions, want)
	}
	x := wantRun(t, m, []int64{api.MaxRegions}, 9999, api.MaxPages, api.Outcome{End: api.EndMemory, Fuel: 4 + 15*6 + 2})
	wantCounts(t, x, api.MaxPages-api.MaxRegions, api.MaxRegions)
	x = wantRun(t, m, []int64{5}, 9999, 3, api.Outcome{End: api.EndMemory, Fuel: 4 + 3*6 - 1})
	wantCounts(t, x, 0, 4)
}

func TestEachFunctionIsCalled(t *testing.T) {
	var text strings.Builder
	text.WriteString(header(api.MaxFuncs-1) + "block 0 () { ")
	var args []string
	for f := 1; f < api.MaxFuncs; f++ {
		text.WriteString(fmt.Sprintf("call %d <> (); ", f))
		args = append(args, fmt.Sprint(f-1))
	}
	text.WriteString("ret (" + strings.Join(args, ", ") + "); } }")
	var want []int64
	for f := 1; f < api.MaxFuncs; f++ {
		text.WriteString(fmt.Sprintf(" func 0 () -> (int) { block 0 () { num %d; ret (0); } }", f*11))
		want = append(want, int64(f*11))
	}
	wantBack(t, moduleOf(t, text.String()), 7*3+1, want...)
}

func TestTheFirstFunctionMayBeCalled(t *testing.T) {
	// a return of the function 0 is the end only if it is the first call
	m := moduleOf(t, header(1)+`block 0 () { in; if 0 to 1 <> () else 2 <> (); } block 0 () { call 0 <> (); num 1; bin add 0 1; ret (2); } block 0 () { num 50; ret (0); } }`)
	wantRun(t, m, []int64{1, 1, 0}, 99, 0, api.Outcome{Back: []int64{52}, Fuel: 3 + 3 + 2 + 2 + 3 + 3})
}
