package codec

import (
	"math"
	"slices"
	"testing"

	"copyhold/api"
	"copyhold/code"
)

// whole is a module of two functions of two blocks each, with an instruction of each kind.
func whole() api.Module {
	params := func() []api.Type {
		return []api.Type{intType(), handleOf(1), tupleAt(0, intType(), arrayAt(1))}
	}
	list := []api.Ins{
		{Op: api.INum, N: -1234567},
		{Op: api.IBin, A: 11, B: 12, K: api.KMod},
		{Op: api.INew},
		{Op: api.IFree, A: 1300},
		{Op: api.ITuple, A: 14, Args: []int{15, 16, -17}},
		{Op: api.IGet, A: 18, K: 3},
		{Op: api.ISet, A: 19, B: 20, K: 4},
		{Op: api.IArray, A: 21, B: 22},
		{Op: api.ILoad, A: 23, B: 24},
		{Op: api.IStore, A: 25, B: 26, C: 27},
		{Op: api.ILen, A: 28},
		{Op: api.IIn},
		{Op: api.IOut, A: math.MaxInt64},
		{Op: api.ICall, K: 1, Regs: []int{29, 30}, Args: []int{31, 32, 33}},
	}
	return api.Module{Funcs: []api.Func{
		{
			Results: []api.Type{intType(), intType()},
			Blocks: []api.Block{
				{Code: list, End: api.End{Op: api.EIf, A: 3, Yes: api.To{Block: 1, Regs: []int{4, 5}, Args: []int{6, 7}}, No: api.To{Block: 0, Regs: []int{8}, Args: []int{9}}}},
				{Regs: 1, Params: []api.Type{handleOf(0)}, Code: []api.Ins{{Op: api.INew}, {Op: api.IIn}}, End: api.End{Op: api.ERet, Args: []int{1, 2}}},
			},
		},
		{
			Regs: 2, Params: params(), Results: []api.Type{arrayAt(0), tupleAt(1)},
			Blocks: []api.Block{
				{Regs: 2, Params: params(), Code: []api.Ins{{Op: api.IOut, A: 1}}, End: api.End{Op: api.EJump, Yes: api.To{Block: 1, Regs: []int{0, 1}, Args: []int{2, 3, 4}}}},
				{Regs: 3, Params: []api.Type{intType(), arrayAt(2)}, End: api.End{Op: api.ERet, Args: []int{3}}},
			},
		},
	}}
}

func TestTheWholeModule(t *testing.T) {
	wantBytes(t, whole(), plainBytes(whole()))
}

// wrong is one change to the module whole, and the fault of code.Check that it brings.
type wrong struct {
	what     string
	code, at int
	change   func(m *api.Module)
}

func manyTypes(n int) []api.Type { return slices.Repeat([]api.Type{intType()}, n) }

// told are faults of what bytes can tell.
func told() []wrong {
	inFive := intType()
	for range api.MaxNested + 1 {
		inFive = tupleAt(0, inFive)
	}
	all := []wrong{
		{"too many functions", api.ErrMany, -1, func(m *api.Module) { m.Funcs = slices.Repeat(m.Funcs, 5) }},
		{"no function", api.ErrMany, -1, func(m *api.Module) { m.Funcs = nil }},
		{"Regs below 0", api.ErrRange, code.FuncAt(1), func(m *api.Module) { m.Funcs[1].Regs = -1 }},
		{"too great Regs", api.ErrRange, code.FuncAt(1), func(m *api.Module) { m.Funcs[1].Regs = api.MaxRegs + 1 }},
		{"too many Params", api.ErrMany, code.FuncAt(1), func(m *api.Module) { m.Funcs[1].Params = manyTypes(9) }},
		{"a deep type", api.ErrDeep, code.FuncAt(1), func(m *api.Module) { m.Funcs[1].Params[1] = inFive }},
		{"a type of no kind", api.ErrKind, code.FuncAt(1), func(m *api.Module) { m.Funcs[1].Params[2].L[0].Kind = 0 }},
		{"a type of no region", api.ErrRange, code.FuncAt(1), func(m *api.Module) { m.Funcs[1].Params[2].L[1].R = 2 }},
		{"a wide tuple", api.ErrMany, code.FuncAt(1), func(m *api.Module) { m.Funcs[1].Results[1].L = manyTypes(9) }},
		{"a result of no region", api.ErrRange, code.FuncAt(1), func(m *api.Module) { m.Funcs[1].Results[0].R = -1 }},
		{"too many Results", api.ErrMany, code.FuncAt(0), func(m *api.Module) { m.Funcs[0].Results = manyTypes(9) }},
		{"no block", api.ErrMany, code.FuncAt(1), func(m *api.Module) { m.Funcs[1].Blocks = nil }},
		{"too many blocks", api.ErrMany, code.FuncAt(1), func(m *api.Module) { m.Funcs[1].Blocks = slices.Repeat(m.Funcs[1].Blocks, 7) }},
		{"a beginning with regions", api.ErrMain, code.FuncAt(0), func(m *api.Module) { m.Funcs[0].Regs = 1 }},
		{"a beginning with Params", api.ErrMain, code.FuncAt(0), func(m *api.Module) { m.Funcs[0].Params = manyTypes(1) }},
		{"a block of fewer regions", api.ErrRange, code.BlockAt(1, 1), func(m *api.Module) { m.Funcs[1].Blocks[1].Regs = 1 }},
		{"a block of too many regions", api.ErrRange, code.BlockAt(1, 1), func(m *api.Module) { m.Funcs[1].Blocks[1].Regs = api.MaxRegions + 1 }},
		{"a block of too many Params", api.ErrMany, code.BlockAt(0, 1), func(m *api.Module) { m.Funcs[0].Blocks[1].Params = manyTypes(9) }},
		{"a block's type of no kind", api.ErrKind, code.BlockAt(0, 1), func(m *api.Module) { m.Funcs[0].Blocks[1].Params[0].Kind = 5 }},
		{"a first block of other regions", api.ErrType, code.BlockAt(1, 0), func(m *api.Module) { m.Funcs[1].Blocks[0].Regs = 3 }},
		{"a first block of other Params", api.ErrType, code.BlockAt(1, 0), func(m *api.Module) { m.Funcs[1].Blocks[0].Params[1].R = 0 }},
		{"too many instructions", api.ErrMany, code.BlockAt(1, 0), func(m *api.Module) { m.Funcs[1].Blocks[0].Code = slices.Repeat(m.Funcs[1].Blocks[0].Code, 41) }},
	}
	for _, x := range []struct {
		code int
		ins  api.Ins
	}{
		{api.ErrKind, api.Ins{}},
		{api.ErrKind, api.Ins{Op: -1}},
		{api.ErrKind, api.Ins{Op: api.ICall + 1}},
		{api.ErrRange, api.Ins{Op: api.IBin}},
		{api.ErrRange, api.Ins{Op: api.IBin, K: 10}},
		{api.ErrMany, api.Ins{Op: api.ITuple, Args: make([]int, 9)}},
		{api.ErrRange, api.Ins{Op: api.IGet, K: 8}},
		{api.ErrRange, api.Ins{Op: api.ISet, K: -1}},
		{api.ErrRange, api.Ins{Op: api.ICall, K: 8}},
		{api.ErrMany, api.Ins{Op: api.ICall, Regs: make([]int, 7)}},
		{api.ErrMany, api.Ins{Op: api.ICall, Args: make([]int, 9)}},
	} {
		all = append(all, wrong{"an instruction", x.code, code.InsAt(0, 1, 1), func(m *api.Module) { m.Funcs[0].Blocks[1].Code[1] = x.ins }})
	}
	for _, x := range []struct {
		code int
		end  api.End
	}{
		{api.ErrKind, api.End{}},
		{api.ErrKind, api.End{Op: -1}},
		{api.ErrKind, api.End{Op: api.ERet + 1}},
		{api.ErrMany, api.End{Op: api.ERet, Args: make([]int, 9)}},
		{api.ErrRange, api.End{Op: api.EJump, Yes: api.To{Block: 2}}},
		{api.ErrRange, api.End{Op: api.EIf, Yes: api.To{Block: -1}}},
		{api.ErrRange, api.End{Op: api.EIf, No: api.To{Block: 2}}},
		{api.ErrMany, api.End{Op: api.EJump, Yes: api.To{Regs: make([]int, 17)}}},
		{api.ErrMany, api.End{Op: api.EIf, No: api.To{Args: make([]int, 9)}}},
	} {
		all = append(all, wrong{"an end", x.code, code.EndAt(1, 1), func(m *api.Module) { m.Funcs[1].Blocks[1].End = x.end }})
	}
	return all
}

// untold are faults of what bytes do not tell: fields that a thing has not.
func untold() []wrong {
	all := []wrong{
		{"an int with R", api.ErrForm, code.FuncAt(1), func(m *api.Module) { m.Funcs[1].Params[2].L[0].R = 1 }},
		{"a handle with L", api.ErrForm, code.FuncAt(1), func(m *api.Module) { m.Funcs[1].Params[1].L = manyTypes(1) }},
		{"an array with L", api.ErrForm, code.FuncAt(1), func(m *api.Module) { m.Funcs[1].Results[0].L = manyTypes(1) }},
		{"a jump with A", api.ErrForm, code.EndAt(1, 0), func(m *api.Module) { m.Funcs[1].Blocks[0].End.A = 1 }},
		{"a jump with Args", api.ErrForm, code.EndAt(1, 0), func(m *api.Module) { m.Funcs[1].Blocks[0].End.Args = []int{0} }},
		{"a jump with No", api.ErrForm, code.EndAt(1, 0), func(m *api.Module) { m.Funcs[1].Blocks[0].End.No.Block = 1 }},
		{"an if with Args", api.ErrForm, code.EndAt(0, 0), func(m *api.Module) { m.Funcs[0].Blocks[0].End.Args = []int{0} }},
		{"a ret with A", api.ErrForm, code.EndAt(0, 1), func(m *api.Module) { m.Funcs[0].Blocks[1].End.A = -1 }},
		{"a ret with Yes", api.ErrForm, code.EndAt(0, 1), func(m *api.Module) { m.Funcs[0].Blocks[1].End.Yes.Regs = []int{0} }},
		{"a ret with No", api.ErrForm, code.EndAt(0, 1), func(m *api.Module) { m.Funcs[0].Blocks[1].End.No.Args = []int{0} }},
	}
	for _, x := range []api.Ins{
		{Op: api.INew, A: 1}, {Op: api.IIn, N: 1}, {Op: api.INum, K: 1}, {Op: api.IFree, B: 1}, {Op: api.ILoad, C: 1},
		{Op: api.IGet, Args: []int{0}}, {Op: api.ITuple, Regs: []int{0}}, {Op: api.ICall, A: 1}, {Op: api.IStore, K: 1}, {Op: api.IOut, N: 1},
	} {
		all = append(all, wrong{"an instruction", api.ErrForm, code.InsAt(0, 1, 1), func(m *api.Module) { m.Funcs[0].Blocks[1].Code[1] = x }})
	}
	return all
}

func TestFaultsOfCheckAtEncode(t *testing.T) {
	for _, w := range slices.Concat(told(), untold()) {
		m := whole()
		w.change(&m)
		if fault := code.Check(m); fault != (api.Fault{Code: w.code, At: w.at}) {
			t.Errorf("%s: code.Check tells %v, want %d at %d", w.what, fault, w.code, w.at)
		}
		wantEncodeFault(t, m, w.code, w.at)
	}
}

func TestFaultsOfCheckAtDecode(t *testing.T) {
	for _, w := range told() {
		m := whole()
		w.change(&m)
		b := plainBytes(m)
		wantFault(t, b, api.ErrKind, len(b)-4)
		left := summed(append(b[:len(b)-4:len(b)-4], 0))
		wantFault(t, left, api.ErrForm, len(b)-4)
		wantFault(t, torn(b, len(b)-1, b[len(b)-1]^1), api.ErrSum, len(b)-4)
	}
}

// What bytes do not tell is nought in what they tell.
func TestFieldsThatBytesDoNotTell(t *testing.T) {
	for _, w := range untold() {
		m := whole()
		w.change(&m)
		b := plainBytes(m)
		got, fault := Decode(b)
		if fault.Code != 0 {
			t.Errorf("%s: fault %v", w.what, fault)
		}
		wantBytes(t, got, b)
	}
}

// code.Check's fault is told ahead of too many bytes.
func TestFaultsOfCheckAheadOfTooManyBytes(t *testing.T) {
	for _, w := range slices.Concat(told(), untold()) {
		m := whole()
		w.change(&m)
		if len(m.Funcs) != 2 { // the functions are the fault
			continue
		}
		m.Funcs = append(m.Funcs, sized(20001).Funcs...)
		if len(plainBytes(m)) <= 20000 {
			t.Fatalf("%s: %d bytes alone", w.what, len(plainBytes(m)))
		}
		wantEncodeFault(t, m, w.code, w.at)
	}
	many := api.Module{Funcs: slices.Repeat(whole().Funcs, 200)}
	many.Funcs[0].Regs = -1
	wantEncodeFault(t, many, api.ErrMany, -1)
}
