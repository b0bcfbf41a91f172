package trim

import (
	"fmt"
	"slices"
	"testing"

	"copyhold/api"
)

// P17.1: the functions

func TestFunctionsThatAreCalledStay(t *testing.T) {
	wantFuncs(t, [][]int{{1}, nil}, []int{0, 1}, [][]int{{1}, nil})
	wantFuncs(t, [][]int{{2}, nil, nil}, []int{0, 2}, [][]int{{1}, nil})
	wantFuncs(t, [][]int{{1}, nil, nil}, []int{0, 1}, [][]int{{1}, nil})
	wantFuncs(t, [][]int{{3, 1, 3, 3}, nil, nil, nil, nil}, []int{0, 1, 3}, [][]int{{2, 1, 2, 2}, nil, nil})
}

func TestFunctionsThatNobodyCallsGo(t *testing.T) {
	wantFuncs(t, [][]int{nil, nil}, []int{0}, [][]int{nil})
	wantFuncs(t, [][]int{nil, {0}, {1}}, []int{0}, [][]int{nil})
	wantFuncs(t, slices.Repeat([][]int{nil}, api.MaxFuncs), []int{0}, [][]int{nil})
}

func TestFunctionsThatAreCalledByOneThatStays(t *testing.T) {
	wantFuncs(t, [][]int{{2}, nil, {4}, nil, {6}, nil, nil}, []int{0, 2, 4, 6}, [][]int{{1}, {2}, {3}, nil})
	wantFuncs(t, [][]int{{7}, nil, nil, nil, {2}, nil, nil, {4}}, []int{0, 2, 4, 7}, [][]int{{3}, nil, {1}, {2}})
	wantFuncs(t, [][]int{{5, 1}, {5}, nil, {1}, nil, {4, 0, 1}}, []int{0, 1, 4, 5}, [][]int{{3, 1}, {3}, nil, {2, 0, 1}})
}

func TestFunctionsThatAreCalledByOneThatGoes(t *testing.T) {
	wantFuncs(t, [][]int{nil, {2}, {3}, nil}, []int{0}, [][]int{nil})
	wantFuncs(t, [][]int{{3}, {2}, nil, nil}, []int{0, 3}, [][]int{{1}, nil})
	// one that stays is called by one that goes, too
	wantFuncs(t, [][]int{{3}, {2, 3}, {3}, nil, {0, 3}}, []int{0, 3}, [][]int{{1}, nil})
}

func TestFunctionsThatCallOneAnotherInACircle(t *testing.T) {
	wantFuncs(t, [][]int{{2}, nil, {3}, {2}}, []int{0, 2, 3}, [][]int{{1}, {2}, {1}})
	wantFuncs(t, [][]int{{2}, nil, {4}, nil, {0}}, []int{0, 2, 4}, [][]int{{1}, {2}, {0}})
	wantFuncs(t, [][]int{nil, {2}, {1}}, []int{0}, [][]int{nil})
	wantFuncs(t, [][]int{{4}, {2}, {3}, {1, 4}, nil}, []int{0, 4}, [][]int{{1}, nil})
}

func TestFunctionsThatCallThemselves(t *testing.T) {
	wantFuncs(t, [][]int{{0}}, []int{0}, [][]int{{0}})
	wantFuncs(t, [][]int{{0}, {1}, {2}}, []int{0}, [][]int{{0}})
	wantFuncs(t, [][]int{{2}, {1}, {2}}, []int{0, 2}, [][]int{{1}, {1}})
	wantFuncs(t, [][]int{{2, 0}, {1, 0}, {2, 0}, {3, 2}}, []int{0, 2}, [][]int{{1, 0}, {1, 0}})
}

func TestTheFunction0Stays(t *testing.T) {
	wantFuncs(t, [][]int{{1}, {1}, {0}}, []int{0, 1}, [][]int{{1}, {1}})
	wantFuncs(t, [][]int{nil, {1}}, []int{0}, [][]int{nil})
	wantFuncs(t, [][]int{{2, 1}, {2}, {1}, {0}}, []int{0, 1, 2}, [][]int{{2, 1}, {2}, {1}})
}

func TestFunctionsThatStayKeepTheirOrder(t *testing.T) {
	for first := 1; first < api.MaxFuncs; first++ {
		for second := 1; second < api.MaxFuncs; second++ {
			if first == second {
				continue
			}
			list := slices.Repeat([][]int{{0}}, api.MaxFuncs)
			list[0], list[first], list[second] = []int{first}, []int{second, first, second}, nil
			want := [][]int{{1}, {2, 1, 2}, nil}
			if second < first {
				want = [][]int{{2}, nil, {1, 2, 1}}
			}
			wantFuncs(t, list, []int{0, min(first, second), max(first, second)}, want)
		}
	}
}

func TestOneFunctionGoes(t *testing.T) {
	for gone := 1; gone < api.MaxFuncs; gone++ {
		var list, want [][]int
		var stay []int
		for i := range api.MaxFuncs {
			next := i + 1
			if next == gone {
				next++
			}
			list = append(list, []int{next % api.MaxFuncs})
			if i != gone {
				stay = append(stay, i)
				want = append(want, []int{len(stay) % (api.MaxFuncs - 1)})
			}
		}
		wantFuncs(t, list, stay, want)
	}
}

func TestAsManyFunctionsAsThereMayBe(t *testing.T) {
	back := [][]int{{7}, nil, {1}, {2}, {3}, {4}, {5}, {6}}
	wantFuncs(t, back, upTo(api.MaxFuncs), back)
	wantFuncs(t, [][]int{{7}, nil, {1}, {2}, {3}, {4}, {5}, nil}, []int{0, 7}, [][]int{{1}, nil})
	wantFuncs(t, [][]int{nil, nil, {1}, {2}, {3}, {4}, {5}, {6}}, []int{0}, [][]int{nil})
}

// subsets are the lists of numbers below n, each as often as once, rising.
func subsets(n int) [][]int {
	list := [][]int{nil}
	for k := range n {
		for _, x := range slices.Clone(list) {
			list = append(list, append(slices.Clone(x), k))
		}
	}
	return list
}

func TestAllCallsOfFewFunctions(t *testing.T) {
	for n := 1; n <= 3; n++ {
		each(subsets(n), n, func(list [][]int) {
			wantAsPlain(t, fmt.Sprint("the functions ", list), funcsOf(upTo(n), list))
		})
	}
}

// Calls, and the blocks where they stand

// callers is a module whose function 0 has blocks with such ends and such calls; of the functions that are called each tells its number.
func callers(labels []int, ends, list [][]int, called ...int) api.Module {
	f := blocksOf(labels, ends)
	for i := range list {
		f.Blocks[i].Code = append(f.Blocks[i].Code, calls(list[i])...)
	}
	m := api.Module{Funcs: []api.Func{f}}
	for _, k := range called {
		m.Funcs = append(m.Funcs, blocksOf([]int{100 + k}, [][]int{nil}))
	}
	return m
}

func TestCallsInABlockThatGoesKeepNoFunction(t *testing.T) {
	wantMade(t, "a block that goes",
		callers(upTo(2), [][]int{nil, nil}, [][]int{nil, {1}}, 1),
		callers(upTo(1), [][]int{nil}, nil))
	wantMade(t, "one that goes between two that stay",
		callers(upTo(3), [][]int{{2}, nil, nil}, [][]int{{3}, {2}, {1}}, 1, 2, 3),
		callers([]int{0, 2}, [][]int{{1}, nil}, [][]int{{2}, {1}}, 1, 3))
	wantMade(t, "one that goes and leads to one that stays",
		callers(upTo(3), [][]int{{2}, {2, 0}, nil}, [][]int{nil, {1, 2}, {2}}, 1, 2),
		callers([]int{0, 2}, [][]int{{1}, nil}, [][]int{nil, {1}}, 2))
	wantMade(t, "each that goes calls the function 0",
		callers(upTo(3), [][]int{nil, {2}, {1}}, [][]int{{1}, {0}, {0, 2}}, 1, 2),
		callers(upTo(1), [][]int{nil}, [][]int{{1}}, 1))
}

func TestAFunctionThatIsCalledWhereItStaysAndWhereItGoes(t *testing.T) {
	wantMade(t, "called in both",
		callers(upTo(3), [][]int{{2}, nil, nil}, [][]int{nil, {2, 1}, {2}}, 1, 2),
		callers([]int{0, 2}, [][]int{{1}, nil}, [][]int{nil, {1}}, 2))
}

func TestCallsInABlockThatGoesOfAFunctionThatStays(t *testing.T) {
	inner := blocksOf([]int{4, 5, 6}, [][]int{{2}, nil, nil})
	inner.Blocks[1].Code = append(inner.Blocks[1].Code, calls([]int{3, 1, 0})...)
	inner.Blocks[2].Code = append(inner.Blocks[2].Code, calls([]int{1})...)
	want := blocksOf([]int{4, 6}, [][]int{{1}, nil})
	want.Blocks[1].Code = append(want.Blocks[1].Code, calls([]int{1})...)
	one, three := blocksOf([]int{1}, [][]int{nil}), blocksOf([]int{3}, [][]int{nil})
	wantMade(t, "a block that goes of the function 2",
		api.Module{Funcs: []api.Func{callerOf(2), one, inner, three}},
		api.Module{Funcs: []api.Func{callerOf(2), one, want}})
}

func TestEveryCallOfEveryBlockIsNumberedAnew(t *testing.T) {
	// 0 and 3 and 5 stay; each block that stays calls all of them, at several places
	list := slices.Repeat([][]int{{5, 3, 0, 3, 5}}, 4)
	want := slices.Repeat([][]int{{2, 1, 0, 1, 2}}, 3)
	list[2] = []int{1, 2, 4, 6, 7}
	from := callers(upTo(4), [][]int{{3, 1}, nil, nil, {0}}, list, 1, 2, 3, 4, 5, 6, 7)
	to := callers([]int{0, 1, 3}, [][]int{{2, 1}, nil, {0}}, want, 3, 5)
	from.Funcs[3].Blocks[0].Code = append(from.Funcs[3].Blocks[0].Code, calls([]int{5, 0, 3})...)
	to.Funcs[1].Blocks[0].Code = append(to.Funcs[1].Blocks[0].Code, calls([]int{2, 0, 1})...)
	wantMade(t, "calls everywhere", from, to)
}

func TestACallThatIsNeverDoneKeepsItsFunction(t *testing.T) {
	wantText(t,
		"func 0 () -> () { block 0 () { num 0; bin div 0 0; call 2 <> (); ret (); } } func 0 () -> () { block 0 () { ret (); } } func 0 () -> () { block 0 () { ret (); } }",
		"func 0 () -> () { block 0 () { num 0; bin div 0 0; call 1 <> (); ret (); } } func 0 () -> () { block 0 () { ret (); } }")
}

func TestACallAtEachPlaceOfABlock(t *testing.T) {
	for at := range api.MaxCode {
		body := func(k int) []api.Block {
			list := slices.Repeat([]api.Ins{{Op: api.INum, N: 1}}, api.MaxCode)
			list[at] = api.Ins{Op: api.ICall, K: k}
			return []api.Block{{Code: list, End: api.End{Op: api.ERet}}}
		}
		called := blocksOf([]int{5}, [][]int{nil})
		wantMade(t, fmt.Sprint("a call at ", at),
			api.Module{Funcs: []api.Func{{Blocks: body(2)}, callerOf(), called}},
			api.Module{Funcs: []api.Func{{Blocks: body(1)}, called}})
	}
}
