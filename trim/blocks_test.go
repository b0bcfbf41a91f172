package trim

import (
	"fmt"
	"slices"
	"testing"

	"copyhold/api"
)

// P17.1: the blocks

func TestAJumpLeadsToABlock(t *testing.T) {
	wantBlocks(t, [][]int{{1}, nil}, []int{0, 1}, [][]int{{1}, nil})
	wantBlocks(t, [][]int{{2}, nil, nil}, []int{0, 2}, [][]int{{1}, nil})
	wantBlocks(t, [][]int{{1}, nil, nil}, []int{0, 1}, [][]int{{1}, nil})
	wantBlocks(t, [][]int{{0}, nil, nil}, []int{0}, [][]int{{0}})
}

func TestEitherWayOfAnIfLeadsToABlock(t *testing.T) {
	wantBlocks(t, [][]int{{1, 2}, nil, nil}, []int{0, 1, 2}, [][]int{{1, 2}, nil, nil})
	wantBlocks(t, [][]int{{2, 1}, nil, nil}, []int{0, 1, 2}, [][]int{{2, 1}, nil, nil})
	wantBlocks(t, [][]int{{0, 2}, nil, nil}, []int{0, 2}, [][]int{{0, 1}, nil})
	wantBlocks(t, [][]int{{2, 0}, nil, nil}, []int{0, 2}, [][]int{{1, 0}, nil})
	wantBlocks(t, [][]int{{2, 2}, nil, nil}, []int{0, 2}, [][]int{{1, 1}, nil})
	wantBlocks(t, [][]int{{0, 0}, nil, nil}, []int{0}, [][]int{{0, 0}})
	wantBlocks(t, [][]int{{4, 2}, nil, nil, nil, nil, nil}, []int{0, 2, 4}, [][]int{{2, 1}, nil, nil})
}

func TestAReturnLeadsNowhere(t *testing.T) {
	wantBlocks(t, [][]int{nil, nil}, []int{0}, [][]int{nil})
	wantBlocks(t, [][]int{nil, {0}, {1, 2}, {3}}, []int{0}, [][]int{nil})
	wantBlocks(t, [][]int{{3}, {2}, {1}, nil}, []int{0, 3}, [][]int{{1}, nil})
}

func TestAWayThatIsNeverTakenLeadsThereToo(t *testing.T) {
	// no look at what numbers are: an if on 0 leads both ways
	wantText(t,
		"func 0 () -> () { block 0 () { num 0; if 0 to 2 <> () else 3 <> (); } block 0 () { ret (); } block 0 () { jump 4 <> (); } block 0 () { ret (); } block 0 () { num 1; bin div 0 0; jump 5 <> (); } block 0 () { ret (); } }",
		"func 0 () -> () { block 0 () { num 0; if 0 to 1 <> () else 2 <> (); } block 0 () { jump 3 <> (); } block 0 () { ret (); } block 0 () { num 1; bin div 0 0; jump 4 <> (); } block 0 () { ret (); } }")
}

func TestSeveralEndsOneBehindTheOther(t *testing.T) {
	wantBlocks(t, [][]int{{2}, nil, {4}, nil, {6}, nil, nil}, []int{0, 2, 4, 6}, [][]int{{1}, {2}, {3}, nil})
	wantBlocks(t, [][]int{{2, 1}, {3}, {1}, nil, nil}, []int{0, 1, 2, 3}, [][]int{{2, 1}, {3}, {1}, nil})
	wantBlocks(t, [][]int{{1, 0}, {0, 3}, nil, {3, 5}, nil, {6, 1}, nil, nil}, []int{0, 1, 3, 5, 6}, [][]int{{1, 0}, {0, 2}, {2, 3}, {4, 1}, nil})
}

func TestEndsThatLeadBackwards(t *testing.T) {
	wantBlocks(t, [][]int{{5}, nil, nil, {2}, nil, {3}}, []int{0, 2, 3, 5}, [][]int{{3}, nil, {1}, {2}})
	wantBlocks(t, [][]int{{3}, {0}, nil, {1}}, []int{0, 1, 3}, [][]int{{2}, {0}, {1}})
	wantBlocks(t, [][]int{{4}, nil, nil, nil, {2, 1}}, []int{0, 1, 2, 4}, [][]int{{3}, nil, nil, {2, 1}})
}

func TestEndsThatLeadInACircle(t *testing.T) {
	wantBlocks(t, [][]int{{2}, nil, {4}, nil, {0}}, []int{0, 2, 4}, [][]int{{1}, {2}, {0}})
	wantBlocks(t, [][]int{{2}, nil, {2}, nil}, []int{0, 2}, [][]int{{1}, {1}})
	wantBlocks(t, [][]int{{4}, nil, {3}, {4}, {2}}, []int{0, 2, 3, 4}, [][]int{{3}, {2}, {3}, {1}})
	// circles to which nothing leads: what goes names what goes, and what stays
	wantBlocks(t, [][]int{nil, {2}, {3}, {1}}, []int{0}, [][]int{nil})
	wantBlocks(t, [][]int{{4}, {2, 0}, {1, 4}, {3}, {5}, nil}, []int{0, 4, 5}, [][]int{{1}, {2}, nil})
	wantBlocks(t, [][]int{{3}, {1}, {2, 0}, {0}}, []int{0, 3}, [][]int{{1}, {0}})
}

func TestTheBlock0Stays(t *testing.T) {
	// no end leads to it, and it stays the first
	wantBlocks(t, [][]int{{1}, {1}, {0}}, []int{0, 1}, [][]int{{1}, {1}})
	wantBlocks(t, [][]int{nil, nil, nil}, []int{0}, [][]int{nil})
	wantBlocks(t, [][]int{{2, 1}, {2}, {1}, {0, 0}}, []int{0, 1, 2}, [][]int{{2, 1}, {2}, {1}})
}

func TestBlocksThatStayKeepTheirOrder(t *testing.T) {
	for first := 1; first < api.MaxBlocks; first++ {
		for second := 1; second < api.MaxBlocks; second++ {
			if first == second {
				continue
			}
			// 0 leads to the one, that to the other
			ends := slices.Repeat([][]int{{0, 0}}, api.MaxBlocks)
			ends[0], ends[first], ends[second] = []int{first}, []int{second, second}, nil
			want := [][]int{{1}, {2, 2}, nil}
			if second < first {
				want = [][]int{{2}, nil, {1, 1}}
			}
			wantBlocks(t, ends, []int{0, min(first, second), max(first, second)}, want)
		}
	}
}

func TestOneBlockGoes(t *testing.T) {
	for gone := 1; gone < api.MaxBlocks; gone++ {
		var ends, want [][]int
		var stay []int
		for i := range api.MaxBlocks {
			next := i + 1
			if next == gone {
				next++
			}
			ends = append(ends, []int{next % api.MaxBlocks})
			if i != gone {
				stay = append(stay, i)
				want = append(want, []int{len(stay) % (api.MaxBlocks - 1)})
			}
		}
		wantBlocks(t, ends, stay, want)
	}
}

func TestAsManyBlocksAsThereMayBe(t *testing.T) {
	back := [][]int{{11}, nil}
	for i := 2; i < api.MaxBlocks; i++ {
		back = append(back, []int{i - 1})
	}
	wantBlocks(t, back, upTo(api.MaxBlocks), back)
	alone := slices.Clone(back)
	alone[0] = nil
	wantBlocks(t, alone, []int{0}, [][]int{nil})
	last := slices.Repeat([][]int{{1, 2}}, api.MaxBlocks)
	last[0], last[11] = []int{11, 11}, []int{11}
	wantBlocks(t, last, []int{0, 11}, [][]int{{1, 1}, {1}})
}

// endsOf are all ends that there may be of n blocks.
func endsOf(n int) [][]int {
	list := [][]int{nil}
	for i := range n {
		list = append(list, []int{i})
		for k := range n {
			list = append(list, []int{i, k})
		}
	}
	return list
}

// each goes through all ways to take so many of a list.
func each[T any](list []T, n int, visit func(taken []T)) {
	if n == 0 {
		visit(nil)
		return
	}
	each(list, n-1, func(taken []T) {
		for _, x := range list {
			visit(append(slices.Clone(taken), x))
		}
	})
}

func TestAllEndsOfFewBlocks(t *testing.T) {
	for n := 1; n <= 3; n++ {
		each(endsOf(n), n, func(ends [][]int) {
			f := blocksOf(upTo(n), ends)
			wantAsPlain(t, fmt.Sprint("the blocks ", ends), api.Module{Funcs: []api.Func{f}})
		})
	}
}

func TestEachFunctionHasItsOwnBlocks(t *testing.T) {
	// each function keeps other blocks, and a number of a block says nothing of those of another function
	ways := [][][]int{{{1}, nil, nil}, {{2}, nil, nil}, {nil, nil, nil}, {{1, 2}, nil, nil}, {{2}, nil, {1}}}
	each(ways, 3, func(taken [][][]int) {
		m := api.Module{Funcs: []api.Func{callerOf(1, 2, 3)}}
		for i, ends := range taken {
			m.Funcs = append(m.Funcs, blocksOf([]int{10 * i, 10*i + 1, 10*i + 2}, ends))
		}
		wantAsPlain(t, fmt.Sprint("the functions ", taken), m)
	})
}

func TestBlocksOfAFunctionThatGoes(t *testing.T) {
	gone := blocksOf([]int{7, 8, 9}, [][]int{{2}, nil, nil})
	stays := blocksOf([]int{4, 5, 6}, [][]int{{2}, nil, nil})
	want := blocksOf([]int{4, 6}, [][]int{{1}, nil})
	wantMade(t, "blocks of a function that goes",
		api.Module{Funcs: []api.Func{callerOf(2), gone, stays}},
		api.Module{Funcs: []api.Func{callerOf(1), want}})
}
