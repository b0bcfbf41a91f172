package render

import (
	"math"
	"slices"
	"strings"
	"testing"

	"copyhold/api"
	"copyhold/code"
)

// whole is a module of two functions of two blocks each, with an instruction of each kind, that can be printed.
func whole() api.Module {
	params := func() []api.Type {
		return []api.Type{intType(), handleOf(1), tupleAt(0, intType(), arrayAt(1))}
	}
	var list []api.Ins
	for _, x := range eachIns() {
		list = append(list, x)
	}
	slices.SortFunc(list, func(a, b api.Ins) int { return strings.Compare(plainIns(a), plainIns(b)) })
	return api.Module{Funcs: []api.Func{
		{
			Results: []api.Type{intType(), intType()},
			Blocks: []api.Block{
				{Code: list, End: api.End{Op: api.EIf, A: 3, Yes: api.To{Block: 1, Regs: []int{4, 5}, Args: []int{6, 7}}, No: api.To{Block: 0, Regs: []int{8}, Args: []int{9}}}},
				{Regs: 1, Params: []api.Type{handleOf(0)}, Code: []api.Ins{{Op: api.INew}, {Op: api.IIn}}, End: back(1, 2)},
			},
		},
		{
			Regs: 2, Params: params(), Results: []api.Type{arrayAt(0), tupleAt(1)},
			Blocks: []api.Block{
				{Regs: 2, Params: params(), Code: []api.Ins{{Op: api.IOut, A: 1}}, End: api.End{Op: api.EJump, Yes: api.To{Block: 1, Regs: []int{0, 1}, Args: []int{2, 3, 4}}}},
				{Regs: 3, Params: []api.Type{intType(), arrayAt(2)}, End: back(3)},
			},
		},
	}}
}

// wrong is one change to the module whole, and the fault that it brings.
type wrong struct {
	what   string
	c, at  int
	change func(m *api.Module)
}

// checkFaults are code.Check's, in the order in which chapter 5 names them where they are in one place.
func checkFaults() []wrong {
	deep := tupleAt(0)
	for range api.MaxNested + 1 {
		deep = tupleAt(0, deep)
	}
	funcs := []wrong{
		{"too many functions", api.ErrMany, -1, func(m *api.Module) { m.Funcs = slices.Repeat(m.Funcs, 5) }},
		{"no function", api.ErrMany, -1, func(m *api.Module) { m.Funcs = nil }},
		{"Regs below 0", api.ErrRange, code.FuncAt(1), func(m *api.Module) { m.Funcs[1].Regs = -1 }},
		{"too great Regs", api.ErrRange, code.FuncAt(1), func(m *api.Module) { m.Funcs[1].Regs = api.MaxRegs + 1 }},
		{"too many Params", api.ErrMany, code.FuncAt(1), func(m *api.Module) { m.Funcs[1].Params = slices.Repeat(m.Funcs[1].Params, 3) }},
		{"a deep type", api.ErrDeep, code.FuncAt(1), func(m *api.Module) { m.Funcs[1].Params[1] = deep }},
		{"a type of no kind", api.ErrKind, code.FuncAt(1), func(m *api.Module) { m.Funcs[1].Params[2].L[0].Kind = 0 }},
		{"an int with R", api.ErrForm, code.FuncAt(1), func(m *api.Module) { m.Funcs[1].Params[2].L[0].R = 1 }},
		{"a handle with L", api.ErrForm, code.FuncAt(1), func(m *api.Module) { m.Funcs[1].Params[1].L = []api.Type{intType()} }},
		{"a type of no region", api.ErrRange, code.FuncAt(1), func(m *api.Module) { m.Funcs[1].Params[2].L[1].R = 2 }},
		{"a wide tuple", api.ErrMany, code.FuncAt(1), func(m *api.Module) { m.Funcs[1].Results[1].L = slices.Repeat([]api.Type{intType()}, 9) }},
		{"a result of no region", api.ErrRange, code.FuncAt(1), func(m *api.Module) { m.Funcs[1].Results[0].R = -1 }},
		{"too many Results", api.ErrMany, code.FuncAt(0), func(m *api.Module) { m.Funcs[0].Results = slices.Repeat(m.Funcs[0].Results, 5) }},
		{"no block", api.ErrMany, code.FuncAt(1), func(m *api.Module) { m.Funcs[1].Blocks = nil }},
		{"too many blocks", api.ErrMany, code.FuncAt(1), func(m *api.Module) { m.Funcs[1].Blocks = slices.Repeat(m.Funcs[1].Blocks, 7) }},
		{"a beginning with regions", api.ErrMain, code.FuncAt(0), func(m *api.Module) { m.Funcs[0].Regs = 1 }},
		{"a beginning with Params", api.ErrMain, code.FuncAt(0), func(m *api.Module) { m.Funcs[0].Params = []api.Type{intType()} }},
		{"a result that is no int", api.ErrRange, code.FuncAt(0), func(m *api.Module) { m.Funcs[0].Results[1] = handleOf(0) }},
		{"a block of fewer regions", api.ErrRange, code.BlockAt(1, 1), func(m *api.Module) { m.Funcs[1].Blocks[1].Regs = 1 }},
		{"a block of too many regions", api.ErrRange, code.BlockAt(1, 1), func(m *api.Module) { m.Funcs[1].Blocks[1].Regs = api.MaxRegions + 1 }},
		{"a block of too many Params", api.ErrMany, code.BlockAt(0, 1), func(m *api.Module) { m.Funcs[0].Blocks[1].Params = slices.Repeat([]api.Type{intType()}, 9) }},
		{"a block's type of no kind", api.ErrKind, code.BlockAt(0, 1), func(m *api.Module) { m.Funcs[0].Blocks[1].Params[0].Kind = 5 }},
		{"a first block of other regions", api.ErrType, code.BlockAt(1, 0), func(m *api.Module) { m.Funcs[1].Blocks[0].Regs = 3 }},
		{"a first block of other Params", api.ErrType, code.BlockAt(1, 0), func(m *api.Module) { m.Funcs[1].Blocks[0].Params[1].R = 0 }},
		{"too many instructions", api.ErrMany, code.BlockAt(1, 0), func(m *api.Module) { m.Funcs[1].Blocks[0].Code = slices.Repeat(m.Funcs[1].Blocks[0].Code, 41) }},
	}
	return slices.Concat(funcs, insFaults(), endFaults())
}

func insFaults() []wrong {
	var all []wrong
	for _, x := range []struct {
		what string
		c    int
		ins  api.Ins
	}{
		{"no instruction", api.ErrKind, api.Ins{}},
		{"no instruction any more", api.ErrKind, api.Ins{Op: api.ICall + 1}},
		{"no instruction, below 0", api.ErrKind, api.Ins{Op: -1, A: -1}},
		{"a new with A", api.ErrForm, api.Ins{Op: api.INew, A: 1}},
		{"a new with an A that can't be told", api.ErrForm, api.Ins{Op: api.INew, A: -1}},
		{"an in with N", api.ErrForm, api.Ins{Op: api.IIn, N: 1}},
		{"a num with K", api.ErrForm, api.Ins{Op: api.INum, N: 1, K: 1}},
		{"a free with B", api.ErrForm, api.Ins{Op: api.IFree, B: 1000001}},
		{"a load with C", api.ErrForm, api.Ins{Op: api.ILoad, C: 1}},
		{"a get with Args", api.ErrForm, api.Ins{Op: api.IGet, Args: []int{0}}},
		{"a tuple with Regs", api.ErrForm, api.Ins{Op: api.ITuple, Regs: []int{-1}}},
		{"a call with A", api.ErrForm, api.Ins{Op: api.ICall, A: 1}},
		{"no arithmetic", api.ErrRange, api.Ins{Op: api.IBin}},
		{"a great tuple", api.ErrMany, api.Ins{Op: api.ITuple, Args: slices.Repeat([]int{0}, 9)}},
		{"a field too far", api.ErrRange, api.Ins{Op: api.IGet, K: 8}},
		{"a field below 0", api.ErrRange, api.Ins{Op: api.ISet, K: -1}},
		{"a call of nothing", api.ErrRange, api.Ins{Op: api.ICall, K: 2}},
		{"a call of too many Regs", api.ErrMany, api.Ins{Op: api.ICall, Regs: slices.Repeat([]int{0}, 7)}},
		{"a call of too many Args", api.ErrMany, api.Ins{Op: api.ICall, Args: slices.Repeat([]int{0}, 9)}},
	} {
		all = append(all,
			wrong{x.what, x.c, code.InsAt(0, 1, 1), func(m *api.Module) { m.Funcs[0].Blocks[1].Code[1] = x.ins }},
			wrong{x.what, x.c, code.InsAt(1, 0, 0), func(m *api.Module) { m.Funcs[1].Blocks[0].Code[0] = x.ins }})
	}
	return all
}

func endFaults() []wrong {
	var all []wrong
	for _, x := range []struct {
		what string
		c    int
		end  api.End
	}{
		{"no end", api.ErrKind, api.End{}},
		{"no end any more", api.ErrKind, api.End{Op: api.ERet + 1}},
		{"no end, below 0", api.ErrKind, api.End{Op: math.MinInt, A: -1}},
		{"a ret with A", api.ErrForm, api.End{Op: api.ERet, A: 1}},
		{"a jump with an A that can't be told", api.ErrForm, api.End{Op: api.EJump, A: -1}},
		{"a jump with Args", api.ErrForm, api.End{Op: api.EJump, Args: []int{0}}},
		{"an if with Args", api.ErrForm, api.End{Op: api.EIf, Args: []int{-1}}},
		{"a ret of too many Args", api.ErrMany, api.End{Op: api.ERet, Args: slices.Repeat([]int{0}, 9)}},
		{"a jump to nothing", api.ErrRange, api.End{Op: api.EJump, Yes: api.To{Block: api.MaxBlocks}}},
		{"an if to nothing", api.ErrRange, api.End{Op: api.EIf, No: api.To{Block: -1}}},
		{"a jump of too many Regs", api.ErrMany, api.End{Op: api.EJump, Yes: api.To{Regs: slices.Repeat([]int{0}, 17)}}},
		{"an if of too many Args", api.ErrMany, api.End{Op: api.EIf, No: api.To{Args: slices.Repeat([]int{0}, 9)}}},
		{"a jump with No", api.ErrForm, api.End{Op: api.EJump, No: api.To{Block: 1}}},
		{"a ret with Yes", api.ErrForm, api.End{Op: api.ERet, Yes: api.To{Args: []int{-1}}}},
		{"a ret with No", api.ErrForm, api.End{Op: api.ERet, No: api.To{Regs: []int{0}}}},
	} {
		all = append(all,
			wrong{x.what, x.c, code.EndAt(0, 1), func(m *api.Module) { m.Funcs[0].Blocks[1].End = x.end }},
			wrong{x.what, x.c, code.EndAt(1, 1), func(m *api.Module) { m.Funcs[1].Blocks[1].End = x.end }})
	}
	return all
}

// numberFaults are numbers that can't be told, in the front and at the back of the module whole.
func numberFaults() []wrong {
	fault := func(what string, change func(m *api.Module)) wrong { return wrong{what, api.ErrNumber, -1, change} }
	return []wrong{
		fault("an A in front", func(m *api.Module) { m.Funcs[0].Blocks[0].Code[0].A = -1 }),
		fault("an end's A", func(m *api.Module) { m.Funcs[0].Blocks[0].End.A = 1000001 }),
		fault("one of Yes' Regs", func(m *api.Module) { m.Funcs[0].Blocks[0].End.Yes.Regs[1] = -1 }),
		fault("one of No's Args", func(m *api.Module) { m.Funcs[0].Blocks[0].End.No.Args[0] = math.MaxInt }),
		fault("one of Args at the back", func(m *api.Module) { m.Funcs[1].Blocks[1].End.Args[0] = math.MinInt }),
	}
}

// longFaults are texts that are too long by what stands in the first function, or in the last one.
func longFaults() []wrong {
	var all []wrong
	long := api.Ins{Op: api.ICall, Regs: slices.Repeat([]int{1000000}, api.MaxRegs), Args: slices.Repeat([]int{1000000}, api.MaxParams)}
	for f := range 2 {
		all = append(all, wrong{"too long", api.ErrMany, -1, func(m *api.Module) {
			b := api.Block{Regs: m.Funcs[f].Regs, Code: slices.Repeat([]api.Ins{long}, api.MaxCode), End: back()}
			m.Funcs[f].Blocks = append(m.Funcs[f].Blocks, slices.Repeat([]api.Block{b}, api.MaxBlocks-2)...)
		}})
	}
	return all
}

func TestTheWholeCanBePrinted(t *testing.T) {
	m := whole()
	wantText(t, m, plainText(m))
}

func TestEachFault(t *testing.T) {
	codes := map[int]int{}
	for _, w := range slices.Concat(checkFaults(), numberFaults(), longFaults()) {
		m := whole()
		w.change(&m)
		codes[w.c]++
		wantFault(t, w.what, m, w.c, w.at)
	}
	for _, c := range []int{api.ErrMany, api.ErrRange, api.ErrKind, api.ErrForm, api.ErrDeep, api.ErrMain, api.ErrType, api.ErrNumber} {
		if codes[c] == 0 {
			t.Errorf("no fault of the code %d", c)
		}
	}
}

// code.Check's fault goes ahead of a number that can't be told and of a text that is too long, wherever these are.
func TestChecksFaultsComeFirst(t *testing.T) {
	for _, w := range checkFaults() {
		for _, n := range append(numberFaults(), longFaults()...) {
			m := whole()
			n.change(&m)
			w.change(&m)
			wantFault(t, w.what+" and "+n.what, m, w.c, w.at)
		}
	}
}

func TestNumbersComeAheadOfTheLength(t *testing.T) {
	for _, n := range numberFaults() {
		for _, long := range longFaults() {
			m := whole()
			long.change(&m)
			n.change(&m)
			wantFault(t, n.what+" and too long", m, api.ErrNumber, -1)
		}
	}
}

func TestTheFirstOfTwoOfChecksFaults(t *testing.T) {
	for _, pair := range []struct {
		c, at  int
		change func(m *api.Module)
	}{
		{api.ErrRange, code.FuncAt(1), func(m *api.Module) { m.Funcs[1].Regs = 7; m.Funcs[1].Blocks = nil }},
		{api.ErrKind, code.InsAt(0, 0, 2), func(m *api.Module) { m.Funcs[0].Blocks[0].Code[2].Op = 0; m.Funcs[0].Blocks[0].End.Op = 0 }},
		{api.ErrKind, code.EndAt(0, 0), func(m *api.Module) { m.Funcs[0].Blocks[0].End.Op = 0; m.Funcs[1].Regs = -1 }},
		{api.ErrMany, -1, func(m *api.Module) { m.Funcs = slices.Repeat(m.Funcs, 5); m.Funcs[0].Regs = 1 }},
		{api.ErrForm, code.EndAt(1, 0), func(m *api.Module) {
			m.Funcs[1].Blocks[0].End.A = -1
			m.Funcs[1].Blocks[1].Params[0].Kind = 0
		}},
		{api.ErrRange, code.InsAt(0, 1, 0), func(m *api.Module) {
			m.Funcs[0].Blocks[1].Code[0] = api.Ins{Op: api.IGet, A: -1, K: 8}
			m.Funcs[0].Blocks[1].Code[1] = api.Ins{Op: 99}
		}},
	} {
		m := whole()
		pair.change(&m)
		wantFault(t, "two faults", m, pair.c, pair.at)
	}
}

func TestVeryDeepTypes(t *testing.T) {
	deep := intType()
	for range 1 << 16 {
		deep = tupleAt(0, deep)
	}
	m := withTypes([]api.Type{deep}, nil, nil)
	if text, fault := Print(m); text != "" || fault != (api.Fault{Code: api.ErrDeep, At: code.FuncAt(1)}) {
		t.Errorf("%s, %v", short(text), fault)
	}
	m = withTypes(nil, nil, []api.Type{intType(), deep})
	if text, fault := Print(m); text != "" || fault != (api.Fault{Code: api.ErrDeep, At: code.BlockAt(1, 1)}) {
		t.Errorf("%s, %v", short(text), fault)
	}
}
