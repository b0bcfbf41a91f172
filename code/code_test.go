package code

import (
	"fmt"
	"math"
	"slices"
	"testing"

	"copyhold/api"
	"copyhold/types"
)

func intType() api.Type            { return api.Type{Kind: api.TInt} }
func handleOf(r int) api.Type      { return api.Type{Kind: api.THandle, R: r} }
func arrayAt(r int) api.Type       { return api.Type{Kind: api.TArray, R: r} }
func ints(n int) []api.Type        { return slices.Repeat([]api.Type{intType()}, n) }
func back() api.End                { return api.End{Op: api.ERet} }
func only(b ...api.Block) api.Func { return api.Func{Blocks: b} }

func tupleAt(r int, fields ...api.Type) api.Type {
	return api.Type{Kind: api.TTuple, R: r, L: fields}
}

func nested(t api.Type, around int) api.Type {
	for range around {
		t = tupleAt(0, t)
	}
	return t
}

// wild has numbers that are right in their low bits alone, too.
func wild() []int {
	return []int{-1, -2, -1000, 255, 1 << 16, 1 << 32, 1<<32 + 1, -1 << 32, math.MinInt, math.MinInt + 1, math.MaxInt}
}

// smallest is the example of the chapter: one function of one block, without anything.
func smallest() api.Module {
	return api.Module{Funcs: []api.Func{only(api.Block{End: back()})}}
}

// funcsOf answers so many functions, each as small as can be.
func funcsOf(n int) api.Module {
	return api.Module{Funcs: slices.Repeat(smallest().Funcs, n)}
}

// roomFunc is a function of two regions, with a parameter and a result of each kind, and three blocks.
func roomFunc() api.Func {
	params := func() []api.Type {
		return []api.Type{intType(), handleOf(1), arrayAt(0), tupleAt(1, intType(), arrayAt(1))}
	}
	return api.Func{
		Regs:    2,
		Params:  params(),
		Results: []api.Type{intType(), tupleAt(0, handleOf(1)), handleOf(0), arrayAt(1)},
		Blocks: []api.Block{
			{Regs: 2, Params: params(), Code: eachIns(), End: api.End{Op: api.EIf, A: 3, Yes: api.To{Block: 1, Regs: []int{0, 1, 2}, Args: []int{4, 5}}, No: api.To{Block: 2, Regs: []int{0, 1}, Args: []int{6}}}},
			{Regs: 3, Params: []api.Type{handleOf(2), tupleAt(2)}, Code: eachIns()[:3], End: api.End{Op: api.EJump, Yes: api.To{Block: 0, Regs: []int{0, 1}, Args: []int{7, 8, 9}}}},
			{Regs: 2, Params: []api.Type{intType()}, Code: []api.Ins{{Op: api.INew}, {Op: api.IFree, A: 1}}, End: api.End{Op: api.ERet, Args: []int{0, 1, 2}}},
		},
	}
}

// eachIns has an instruction of each kind, with something in each field that it has.
func eachIns() []api.Ins {
	return []api.Ins{
		{Op: api.INum, N: -77},
		{Op: api.IBin, A: 1, B: 2, K: api.KMul},
		{Op: api.INew},
		{Op: api.IFree, A: 3},
		{Op: api.ITuple, A: 4, Args: []int{5, 6}},
		{Op: api.IGet, A: 7, K: 1},
		{Op: api.ISet, A: 8, B: 9, K: 2},
		{Op: api.IArray, A: 10, B: 11},
		{Op: api.ILoad, A: 12, B: 13},
		{Op: api.IStore, A: 14, B: 15, C: 16},
		{Op: api.ILen, A: 17},
		{Op: api.IIn},
		{Op: api.IOut, A: 18},
		{Op: api.ICall, K: 1, Regs: []int{0, 1}, Args: []int{19, 20, 21}},
	}
}

// large is a module of three functions; the last two have regions, parameters, and blocks of each kind of end.
func large() api.Module {
	begin := api.Func{Results: ints(2), Blocks: []api.Block{
		{Code: eachIns(), End: api.End{Op: api.EJump, Yes: api.To{Block: 1, Regs: []int{0}, Args: []int{1}}}},
		{Regs: 1, Params: []api.Type{handleOf(0)}, End: api.End{Op: api.ERet, Args: []int{1, 2}}},
	}}
	return api.Module{Funcs: []api.Func{begin, roomFunc(), roomFunc()}}
}

// told writes every field out, so that tests hold modules against each other without Same; no list and an empty one are told alike.
func told(m api.Module) string { return fmt.Sprint(m) }

func wantCheck(t *testing.T, what string, m api.Module, code, at int) {
	t.Helper()
	if got, want := Check(m), (api.Fault{Code: code, At: at}); got != want {
		t.Errorf("%s: Check = %v, want %v", what, got, want)
	}
}

// changedFunc is large with the function f changed.
func changedFunc(f int, change func(f *api.Func)) api.Module {
	m := large()
	change(&m.Funcs[f])
	return m
}

// changedBlock is large with the block b of the function f changed.
func changedBlock(f, b int, change func(b *api.Block)) api.Module {
	return changedFunc(f, func(f *api.Func) { change(&f.Blocks[b]) })
}

// The places

func TestPlaces(t *testing.T) {
	for f := range api.MaxFuncs {
		if got, want := FuncAt(f), f*10000+9999; got != want {
			t.Errorf("FuncAt(%d) = %d, want %d", f, got, want)
		}
		for b := range api.MaxBlocks {
			got := []int{BlockAt(f, b), EndAt(f, b), InsAt(f, b, 0), InsAt(f, b, 1), InsAt(f, b, api.MaxCode-1)}
			base := f*10000 + b*100
			if want := []int{base + 90, base + 91, base, base + 1, base + 39}; !slices.Equal(got, want) {
				t.Errorf("places of the block %d of the function %d: %v, want %v", b, f, got, want)
			}
		}
	}
}

func TestPlacesByTheirNumbers(t *testing.T) {
	for _, x := range [][2]int{
		{FuncAt(0), 9999}, {FuncAt(1), 19999}, {FuncAt(7), 79999}, {FuncAt(-1), -1}, {FuncAt(12345), 123459999},
		{BlockAt(0, 0), 90}, {BlockAt(0, 1), 190}, {BlockAt(3, 0), 30090}, {BlockAt(1, 2), 10290}, {BlockAt(-1, 2), -9710}, {BlockAt(0, -1), -10}, {BlockAt(1, 1000), 110090},
		{EndAt(0, 0), 91}, {EndAt(0, 1), 191}, {EndAt(3, 0), 30091}, {EndAt(1, 2), 10291}, {EndAt(-1, 2), -9709}, {EndAt(0, -1), -9}, {EndAt(1, 1000), 110091},
		{InsAt(0, 0, 0), 0}, {InsAt(0, 0, 5), 5}, {InsAt(0, 4, 5), 405}, {InsAt(1, 2, 3), 10203}, {InsAt(-1, -2, -3), -10203}, {InsAt(0, 0, math.MaxInt), math.MaxInt}, {InsAt(0, 0, math.MinInt), math.MinInt}, {InsAt(2, 300, 4000), 54000},
	} {
		if x[0] != x[1] {
			t.Errorf("a place is %d, want %d", x[0], x[1])
		}
	}
}

func TestPlacesOfAnyNumbersEnd(t *testing.T) {
	for _, f := range wild() {
		for _, b := range wild() {
			if FuncAt(f) != FuncAt(f) || BlockAt(f, b)+1 != EndAt(f, b) || InsAt(f, b, 90) != BlockAt(f, b) {
				t.Errorf("places of %d, %d don't stand side by side", f, b)
			}
		}
	}
}

// P5.1: functions

func TestCheckOfTheExample(t *testing.T) {
	wantCheck(t, "the example", smallest(), 0, 0)
	empty := api.Module{Funcs: []api.Func{{Params: []api.Type{}, Results: []api.Type{}, Blocks: []api.Block{{Params: []api.Type{}, Code: []api.Ins{}, End: api.End{Op: api.ERet, Args: []int{}, Yes: api.To{Regs: []int{}, Args: []int{}}, No: api.To{Regs: []int{}, Args: []int{}}}}}}}}
	wantCheck(t, "the example with empty lists", empty, 0, 0)
}

func TestCheckOfSeveralFunctionsAndBlocks(t *testing.T) {
	wantCheck(t, "large", large(), 0, 0)
	wantCheck(t, "values and regions that are none", changedBlock(1, 1, func(b *api.Block) {
		b.Code = []api.Ins{{Op: api.IFree, A: 70000}, {Op: api.IOut, A: -1}, {Op: api.ICall, K: 2, Regs: []int{-5, 99}, Args: []int{-6, 98}}}
		b.End = api.End{Op: api.EIf, A: -8, Yes: api.To{Block: 1, Regs: []int{-5, 99}, Args: []int{-6}}, No: api.To{Block: 0, Args: []int{math.MinInt}}}
	}), 0, 0)
}

func TestCheckCountsFunctions(t *testing.T) {
	wantCheck(t, "none", api.Module{}, api.ErrMany, -1)
	wantCheck(t, "an empty list", api.Module{Funcs: []api.Func{}}, api.ErrMany, -1)
	for n := 1; n <= api.MaxFuncs; n++ {
		wantCheck(t, fmt.Sprint(n, " functions"), funcsOf(n), 0, 0)
	}
	for _, n := range []int{api.MaxFuncs + 1, api.MaxFuncs + 2, 1000} {
		wantCheck(t, fmt.Sprint(n, " functions"), funcsOf(n), api.ErrMany, -1)
		wantCheck(t, fmt.Sprint(n, " functions without blocks"), api.Module{Funcs: make([]api.Func, n)}, api.ErrMany, -1)
	}
}

func TestCheckOfTheRegionsOfAFunction(t *testing.T) {
	regs := func(f, n int) api.Module {
		m := funcsOf(api.MaxFuncs)
		m.Funcs[f] = api.Func{Regs: n, Blocks: []api.Block{{Regs: n, End: back()}}}
		return m
	}
	for f := 1; f < api.MaxFuncs; f++ {
		for n := range api.MaxRegs + 1 {
			wantCheck(t, fmt.Sprint(n, " regions of the function ", f), regs(f, n), 0, 0)
		}
	}
	for f := range api.MaxFuncs {
		for _, n := range append(wild(), api.MaxRegs+1, api.MaxRegions, api.MaxRegions+1) {
			wantCheck(t, fmt.Sprint(n, " regions of the function ", f), regs(f, n), api.ErrRange, f*10000+9999)
		}
	}
}

func TestCheckCountsParams(t *testing.T) {
	for _, n := range []int{0, 1, api.MaxParams - 1, api.MaxParams, api.MaxParams + 1, api.MaxParams + 2, 500} {
		code, at := 0, 0
		if n > api.MaxParams {
			code, at = api.ErrMany, 19999
		}
		m := changedFunc(1, func(f *api.Func) { f.Params, f.Blocks[0].Params = ints(n), ints(n) })
		wantCheck(t, fmt.Sprint(n, " params"), m, code, at)
		wantCheck(t, fmt.Sprint(n, " results"), changedFunc(1, func(f *api.Func) { f.Results = ints(n) }), code, at)
		if n > api.MaxParams {
			at = 10190
		}
		wantCheck(t, fmt.Sprint(n, " params of a block"), changedBlock(1, 1, func(b *api.Block) { b.Params = ints(n) }), code, at)
	}
	wantCheck(t, "too many results of the first", changedFunc(0, func(f *api.Func) { f.Results = ints(9) }), api.ErrMany, 9999)
	wantCheck(t, "many results of the first", changedFunc(0, func(f *api.Func) { f.Results = ints(8) }), 0, 0)
}

// refused are types that types.Check refuses over two regions, with its code.
func refused() map[string]struct {
	t    api.Type
	code int
} {
	type entry = struct {
		t    api.Type
		code int
	}
	return map[string]entry{
		"zero":        {api.Type{}, api.ErrKind},
		"no kind":     {api.Type{Kind: 5}, api.ErrKind},
		"below":       {api.Type{Kind: -1}, api.ErrKind},
		"int with R":  {api.Type{Kind: api.TInt, R: 1}, api.ErrForm},
		"int with L":  {api.Type{Kind: api.TInt, L: ints(1)}, api.ErrForm},
		"array, L":    {api.Type{Kind: api.TArray, L: ints(1)}, api.ErrForm},
		"fields":      {tupleAt(0, ints(9)...), api.ErrMany},
		"region":      {handleOf(2), api.ErrRange},
		"region down": {arrayAt(-1), api.ErrRange},
		"inner":       {tupleAt(0, intType(), handleOf(2)), api.ErrRange},
		"inner kind":  {tupleAt(1, api.Type{}), api.ErrKind},
		"deep":        {nested(intType(), 5), api.ErrDeep},
		"very deep":   {nested(intType(), 1<<16), api.ErrDeep},
	}
}

func TestCheckOfTypesThatAreNone(t *testing.T) {
	for what, x := range refused() {
		for place := range 4 {
			put := func(list []api.Type) []api.Type { return slices.Insert(ints(3), place, x.t) }
			wantCheck(t, what+" as a param", changedFunc(2, func(f *api.Func) { f.Params = put(f.Params) }), x.code, 29999)
			wantCheck(t, what+" as a param of both", changedFunc(2, func(f *api.Func) { f.Params, f.Blocks[0].Params = put(f.Params), put(f.Params) }), x.code, 29999)
			wantCheck(t, what+" as a result", changedFunc(2, func(f *api.Func) { f.Results = put(f.Results) }), x.code, 29999)
			wantCheck(t, what+" as a param of a block", changedBlock(2, 2, func(b *api.Block) { b.Params = put(b.Params) }), x.code, 20290)
			wantCheck(t, what+" as a param of the block 0", changedBlock(2, 0, func(b *api.Block) { b.Params = put(b.Params) }), x.code, 20090)
		}
	}
}

func TestCheckTellsTheFirstTypeOfAList(t *testing.T) {
	for _, left := range refused() {
		for _, right := range refused() {
			list := []api.Type{intType(), left.t, intType(), right.t}
			wantCheck(t, "params", changedFunc(1, func(f *api.Func) { f.Params = list }), left.code, 19999)
			wantCheck(t, "results", changedFunc(1, func(f *api.Func) { f.Results = list }), left.code, 19999)
			wantCheck(t, "params of a block", changedBlock(1, 2, func(b *api.Block) { b.Params = list }), left.code, 10290)
			wantCheck(t, "params, then results", changedFunc(1, func(f *api.Func) {
				f.Params, f.Results = append(ints(1), left.t), append(ints(1), right.t)
			}), left.code, 19999)
		}
	}
}

func TestCheckHoldsTypesAgainstTheRightRegions(t *testing.T) {
	for regs := range api.MaxRegs + 1 {
		for _, kind := range []int{api.THandle, api.TArray, api.TTuple} {
			for r := range api.MaxRegions + 1 {
				list := []api.Type{{Kind: kind, R: r}}
				code, at := 0, 0
				if r >= regs {
					code, at = api.ErrRange, 19999
				}
				m := funcsOf(2)
				m.Funcs[1] = api.Func{Regs: regs, Params: list, Blocks: []api.Block{{Regs: regs, Params: list, End: back()}}}
				wantCheck(t, fmt.Sprint("a param at ", r, " of ", regs), m, code, at)
				m.Funcs[1] = api.Func{Regs: regs, Results: list, Blocks: []api.Block{{Regs: regs, End: back()}}}
				wantCheck(t, fmt.Sprint("a result at ", r, " of ", regs), m, code, at)
			}
		}
	}
}

func TestCheckCountsBlocks(t *testing.T) {
	for f := range 3 {
		for n := 1; n <= api.MaxBlocks; n++ {
			m := changedFunc(f, func(f *api.Func) { f.Blocks = slices.Repeat(f.Blocks[:1], n); f.Blocks[0].End = back() })
			for b := range n {
				m.Funcs[f].Blocks[b].End = back()
			}
			wantCheck(t, fmt.Sprint(n, " blocks"), m, 0, 0)
		}
		for _, n := range []int{0, api.MaxBlocks + 1, api.MaxBlocks + 2, 300} {
			m := changedFunc(f, func(f *api.Func) { f.Blocks = make([]api.Block, n) })
			wantCheck(t, fmt.Sprint(n, " blocks"), m, api.ErrMany, f*10000+9999)
		}
		wantCheck(t, "no list of blocks", changedFunc(f, func(f *api.Func) { f.Blocks = nil }), api.ErrMany, f*10000+9999)
	}
}

func TestCheckOfTheFunctionWhereItBegins(t *testing.T) {
	begin := func(f api.Func) api.Module { return api.Module{Funcs: []api.Func{f}} }
	for n := 1; n <= api.MaxRegs; n++ {
		wantCheck(t, "regions", begin(api.Func{Regs: n, Blocks: []api.Block{{Regs: n, End: back()}}}), api.ErrMain, 9999)
	}
	for n := 1; n <= api.MaxParams; n++ {
		wantCheck(t, "params", begin(api.Func{Params: ints(n), Blocks: []api.Block{{Params: ints(n), End: back()}}}), api.ErrMain, 9999)
		wantCheck(t, "params, not of the block", begin(api.Func{Params: ints(n), Blocks: []api.Block{{End: back()}}}), api.ErrMain, 9999)
	}
	for _, result := range []api.Type{handleOf(0), arrayAt(0), tupleAt(0), tupleAt(0, intType())} {
		for place := range 3 {
			list := slices.Insert(ints(2), place, result)
			wantCheck(t, "a result at no region", begin(api.Func{Results: list, Blocks: []api.Block{{End: back()}}}), api.ErrRange, 9999)
			wantCheck(t, "a result at a region", begin(api.Func{Regs: 1, Results: list, Blocks: []api.Block{{Regs: 1, End: back()}}}), api.ErrMain, 9999)
			wantCheck(t, "of another function", api.Module{Funcs: []api.Func{only(api.Block{End: back()}), {Regs: 1, Results: list, Blocks: []api.Block{{Regs: 1, End: back()}}}}}, 0, 0)
		}
	}
	for n := range api.MaxParams + 1 {
		wantCheck(t, "ints as results", begin(api.Func{Results: ints(n), Blocks: []api.Block{{End: back()}}}), 0, 0)
	}
	m := large()
	m.Funcs[0] = roomFunc()
	wantCheck(t, "a function that is called", m, api.ErrMain, 9999)
}

// P5.1: blocks

func TestCheckOfTheRegionsOfABlock(t *testing.T) {
	for own := range api.MaxRegs + 1 {
		for regs := -2; regs <= api.MaxRegions+2; regs++ {
			m := funcsOf(2)
			m.Funcs[1] = api.Func{Regs: own, Blocks: []api.Block{{Regs: own, End: back()}, {Regs: regs, End: back()}}}
			code, at := 0, 0
			if regs < own || regs > api.MaxRegions {
				code, at = api.ErrRange, 10190
			}
			wantCheck(t, fmt.Sprint(regs, " regions of a block of ", own), m, code, at)
		}
	}
	for _, regs := range wild() {
		for b := range 3 {
			wantCheck(t, fmt.Sprint(regs, " regions"), changedBlock(1, b, func(b *api.Block) { b.Regs = regs }), api.ErrRange, 10090+b*100)
		}
	}
}

func TestCheckHoldsTheTypesOfABlockAgainstItsOwnRegions(t *testing.T) {
	for regs := 2; regs <= api.MaxRegions; regs++ {
		for r := range api.MaxRegions + 1 {
			m := changedBlock(1, 1, func(b *api.Block) { b.Regs, b.Params = regs, []api.Type{tupleAt(0, handleOf(r)), arrayAt(r)} })
			if r < regs {
				wantCheck(t, fmt.Sprint("at ", r, " of ", regs), m, 0, 0)
			} else {
				wantCheck(t, fmt.Sprint("at ", r, " of ", regs), m, api.ErrRange, 10190)
			}
		}
	}
}

func TestCheckOfTheBlockWhereAFunctionBegins(t *testing.T) {
	other := func(what string, change func(b *api.Block)) {
		t.Helper()
		wantCheck(t, what, changedBlock(2, 0, change), api.ErrType, 20090)
	}
	for n := 3; n <= api.MaxRegions; n++ {
		other("more regions", func(b *api.Block) { b.Regs = n })
		wantCheck(t, "more regions of the function 0", changedBlock(0, 0, func(b *api.Block) { b.Regs = n }), api.ErrType, 90)
	}
	for n := range 2 {
		wantCheck(t, "fewer regions", changedBlock(2, 0, func(b *api.Block) { b.Regs = n }), api.ErrRange, 20090)
	}
	other("no params", func(b *api.Block) { b.Params = nil })
	other("one param less", func(b *api.Block) { b.Params = b.Params[:3] })
	other("one param less ahead", func(b *api.Block) { b.Params = b.Params[1:] })
	other("one param more", func(b *api.Block) { b.Params = append(b.Params, intType()) })
	other("another order", func(b *api.Block) { b.Params[0], b.Params[1] = b.Params[1], b.Params[0] })
	other("another kind", func(b *api.Block) { b.Params[2].Kind = api.THandle })
	other("another region", func(b *api.Block) { b.Params[2].R = 1 })
	other("another region within", func(b *api.Block) { b.Params[3].L[1].R = 0 })
	other("another kind within", func(b *api.Block) { b.Params[3].L[1].Kind = api.THandle })
	other("one field more", func(b *api.Block) { b.Params[3].L = append(b.Params[3].L, intType()) })
	wantCheck(t, "params of the function 0", changedBlock(0, 0, func(b *api.Block) { b.Params = ints(1) }), api.ErrType, 90)
	wantCheck(t, "no list and an empty one", changedFunc(1, func(f *api.Func) { f.Params, f.Blocks[0].Params = nil, []api.Type{} }), 0, 0)
	wantCheck(t, "other blocks take what they like", changedBlock(2, 1, func(b *api.Block) { b.Regs, b.Params = 7, ints(5) }), 0, 0)
}

func TestCheckCountsInstructions(t *testing.T) {
	for f := range 3 {
		for b := range 2 {
			for _, n := range []int{0, 1, api.MaxCode - 1, api.MaxCode} {
				wantCheck(t, fmt.Sprint(n, " instructions"), changedBlock(f, b, func(b *api.Block) { b.Code = slices.Repeat([]api.Ins{{Op: api.IIn}}, n) }), 0, 0)
			}
			for _, n := range []int{api.MaxCode + 1, api.MaxCode + 2, 1000} {
				wantCheck(t, fmt.Sprint(n, " instructions"), changedBlock(f, b, func(b *api.Block) { b.Code = slices.Repeat([]api.Ins{{Op: api.IIn}}, n) }), api.ErrMany, BlockAt(f, b))
				wantCheck(t, fmt.Sprint(n, " of no kind"), changedBlock(f, b, func(b *api.Block) { b.Code = make([]api.Ins, n) }), api.ErrMany, BlockAt(f, b))
			}
		}
	}
}

func TestCheckTellsWhereAnInstructionIs(t *testing.T) {
	m := api.Module{}
	for range api.MaxFuncs {
		block := api.Block{Code: slices.Repeat([]api.Ins{{Op: api.IIn}}, api.MaxCode), End: back()}
		m.Funcs = append(m.Funcs, only(slices.Repeat([]api.Block{block}, api.MaxBlocks)...))
	}
	wantCheck(t, "as great as can be", m, 0, 0)
	for f := range api.MaxFuncs {
		for b := range api.MaxBlocks {
			for _, i := range []int{0, 1, 17, api.MaxCode - 1} {
				wrong := Own(m)
				wrong.Funcs[f].Blocks[b].Code[i].Op = 0
				wantCheck(t, "an instruction", wrong, api.ErrKind, f*10000+b*100+i)
			}
			wrong := Own(m)
			wrong.Funcs[f].Blocks[b].End.Op = 0
			wantCheck(t, "an end", wrong, api.ErrKind, f*10000+b*100+91)
		}
	}
}

func TestCheckCallsInsWithTheModuleAndEndWithTheFunction(t *testing.T) {
	call := func(k int) api.Module {
		return changedBlock(1, 2, func(b *api.Block) { b.Code = append(b.Code, api.Ins{Op: api.ICall, K: k}) })
	}
	for k := range 3 {
		wantCheck(t, "a function", call(k), 0, 0)
	}
	wantCheck(t, "no function", call(3), api.ErrRange, 10202)
	jump := func(f, k int) api.Module {
		return changedBlock(f, 1, func(b *api.Block) { b.End = api.End{Op: api.EJump, Yes: api.To{Block: k}} })
	}
	wantCheck(t, "the last block of two", jump(0, 1), 0, 0)
	wantCheck(t, "a block of another function", jump(0, 2), api.ErrRange, 191)
	wantCheck(t, "the last block of three", jump(1, 2), 0, 0)
	wantCheck(t, "no block", jump(1, 3), api.ErrRange, 10191)
}

// P5.1: which fault is told

// wrong is one fault of the function f of large, by itself; those of one function stand in the order in which they are told.
type wrong struct {
	what   string
	change func(m *api.Module)
	fault  api.Fault
}

// wrongsOf has no two changes of which one takes the other back.
func wrongsOf(f int) []wrong {
	in := func(change func(f *api.Func)) func(m *api.Module) {
		return func(m *api.Module) { change(&m.Funcs[f]) }
	}
	list := []wrong{
		{"Regs", in(func(f *api.Func) { f.Regs = -1 }), api.Fault{Code: api.ErrRange, At: FuncAt(f)}},
		{"many Params", in(func(f *api.Func) { f.Params = append(f.Params, make([]api.Type, 9)...) }), api.Fault{Code: api.ErrMany, At: FuncAt(f)}},
		{"a Param", in(func(f *api.Func) { f.Params = append([]api.Type{{Kind: 9}}, f.Params...) }), api.Fault{Code: api.ErrKind, At: FuncAt(f)}},
		{"many Results", in(func(f *api.Func) { f.Results = append(f.Results, make([]api.Type, 9)...) }), api.Fault{Code: api.ErrMany, At: FuncAt(f)}},
		{"a Result", in(func(f *api.Func) { f.Results = append([]api.Type{{Kind: 1, R: 1}}, f.Results...) }), api.Fault{Code: api.ErrForm, At: FuncAt(f)}},
		{"many Blocks", in(func(f *api.Func) { f.Blocks = append(f.Blocks, make([]api.Block, 12)...) }), api.Fault{Code: api.ErrMany, At: FuncAt(f)}},
	}
	if f == 0 {
		list = append(list, wrong{"main", in(func(f *api.Func) { f.Params = append(f.Params, intType()) }), api.Fault{Code: api.ErrMain, At: FuncAt(f)}})
	}
	return append(append(list, wrongsOfBlock(f, 0)...), wrongsOfBlock(f, 1)...)
}

func wrongsOfBlock(f, b int) []wrong {
	in := func(change func(b *api.Block)) func(m *api.Module) {
		return func(m *api.Module) { change(&m.Funcs[f].Blocks[b]) }
	}
	at := func(code int) api.Fault { return api.Fault{Code: code, At: BlockAt(f, b)} }
	list := []wrong{
		{"Regs of a block", in(func(b *api.Block) { b.Regs = 17 }), at(api.ErrRange)},
		{"many Params of a block", in(func(b *api.Block) { b.Params = append(b.Params, ints(9)...) }), at(api.ErrMany)},
		{"a Param of a block", in(func(b *api.Block) { b.Params = append([]api.Type{nested(intType(), 6)}, b.Params...) }), at(api.ErrDeep)},
	}
	if b == 0 {
		list = append(list, wrong{"not the function's", in(func(b *api.Block) { b.Params = append(b.Params, intType()) }), at(api.ErrType)})
	}
	return append(list,
		wrong{"many instructions", in(func(b *api.Block) { b.Code = append(b.Code, make([]api.Ins, 41)...) }), at(api.ErrMany)},
		wrong{"an instruction", in(func(b *api.Block) { b.Code = append([]api.Ins{{Op: api.INew, A: 1}}, b.Code...) }), api.Fault{Code: api.ErrForm, At: InsAt(f, b, 0)}},
		wrong{"the last instruction", in(func(b *api.Block) { b.Code = append(b.Code, api.Ins{Op: api.IGet, K: 8}) }), api.Fault{Code: api.ErrRange, At: InsAt(f, b, len(large().Funcs[f].Blocks[b].Code))}},
		wrong{"the end", in(func(b *api.Block) { b.End.Op = 4 }), api.Fault{Code: api.ErrKind, At: EndAt(f, b)}},
	)
}

func TestCheckTellsTheFirstOfTwoFaults(t *testing.T) {
	list := append(append(wrongsOf(0), wrongsOf(1)...), wrongsOf(2)...)
	for i, first := range list {
		m := large()
		first.change(&m)
		wantCheck(t, first.what+" alone", m, first.fault.Code, first.fault.At)
		for _, second := range list[i+1:] {
			for _, turned := range []bool{false, true} {
				m := large()
				if turned {
					second.change(&m)
					first.change(&m)
				} else {
					first.change(&m)
					second.change(&m)
				}
				wantCheck(t, fmt.Sprint(first.what, " (", first.fault, "), then ", second.what, " (", second.fault, ")"), m, first.fault.Code, first.fault.At)
			}
		}
		many := large()
		many.Funcs = append(many.Funcs, make([]api.Func, 6)...)
		first.change(&many)
		wantCheck(t, "too many functions, and "+first.what, many, api.ErrMany, -1)
	}
}

func TestCheckTellsNoBlocksAheadOfMain(t *testing.T) {
	wantCheck(t, "no blocks, Regs", changedFunc(0, func(f *api.Func) { f.Blocks, f.Regs = nil, 1 }), api.ErrMany, 9999)
	wantCheck(t, "no blocks, Params", changedFunc(0, func(f *api.Func) { f.Blocks, f.Params = nil, ints(1) }), api.ErrMany, 9999)
	wantCheck(t, "main, and a block that is wrong", changedFunc(0, func(f *api.Func) { f.Params, f.Blocks[0].Regs = ints(1), -1 }), api.ErrMain, 9999)
}

func TestCheckOfTypesIsTheirs(t *testing.T) {
	for what, x := range refused() {
		if got := types.Check(x.t, 2); got != x.code {
			t.Errorf("%s: types.Check = %d, want %d", what, got, x.code)
		}
	}
}
