package render

import (
	"fmt"
	"math"
	"slices"
	"strconv"
	"strings"
	"testing"

	"copyhold/api"
	"copyhold/code"
	"copyhold/parse"
)

func intType() api.Type       { return api.Type{Kind: api.TInt} }
func handleOf(r int) api.Type { return api.Type{Kind: api.THandle, R: r} }
func arrayAt(r int) api.Type  { return api.Type{Kind: api.TArray, R: r} }
func back(args ...int) api.End {
	return api.End{Op: api.ERet, Args: args}
}

func tupleAt(r int, fields ...api.Type) api.Type {
	return api.Type{Kind: api.TTuple, R: r, L: fields}
}

// short keeps what a test tells to a line.
func short(s string) string {
	if len(s) > 400 {
		return fmt.Sprintf("%q and %d more", s[:400], len(s)-400)
	}
	return strconv.Quote(s)
}

// wantText: Print tells this text, Parse tells the module again, and the module stays as it was.
func wantText(t *testing.T, m api.Module, want string) {
	t.Helper()
	ahead := code.Own(m)
	got, fault := Print(m)
	if fault != (api.Fault{}) {
		t.Errorf("fault %v, want the text %s", fault, short(want))
		return
	}
	if got != want {
		t.Errorf("%s, want %s", short(got), short(want))
	}
	if !code.Same(m, ahead) {
		t.Errorf("%s: the module was changed", short(want))
	}
	wantThereAndBack(t, m, got)
}

func wantThereAndBack(t *testing.T, m api.Module, text string) {
	t.Helper()
	read, fault := parse.Parse(text)
	if fault != (api.Fault{}) || !code.Same(read, m) {
		t.Errorf("Parse of %s: %v, not the module", short(text), fault)
		return
	}
	if again, fault := Print(read); again != text || fault != (api.Fault{}) {
		t.Errorf("printed again: %s, %v, want %s", short(again), fault, short(text))
	}
}

func wantFault(t *testing.T, what string, m api.Module, c, at int) {
	t.Helper()
	ahead := code.Own(m)
	got, fault := Print(m)
	if want := (api.Fault{Code: c, At: at}); fault != want {
		t.Errorf("%s: fault %v, want %v", what, fault, want)
	}
	if got != "" {
		t.Errorf("%s: the text %s beside a fault", what, short(got))
	}
	if !code.Same(m, ahead) {
		t.Errorf("%s: the module was changed", what)
	}
}

func moduleOf(blocks ...api.Block) api.Module {
	return api.Module{Funcs: []api.Func{{Blocks: blocks}}}
}

// only is a module of one block of this code; alone is the text of one with these lines.
func only(end api.End, list ...api.Ins) api.Module {
	return moduleOf(api.Block{Code: list, End: end})
}

func alone(lines ...string) string {
	return "func 0 () -> () {\n" + blockText(lines...) + "}\n"
}

func blockText(lines ...string) string {
	return "block 0 () {\n\t" + strings.Join(lines, ";\n\t") + ";\n}\n"
}

// Ordinary runs

func TestTheVeryBytes(t *testing.T) {
	m := api.Module{Funcs: []api.Func{{
		Results: []api.Type{intType()},
		Blocks:  []api.Block{{Code: []api.Ins{{Op: api.INum, N: 5}}, End: back(0)}},
	}}}
	wantText(t, m, "func 0 () -> (int) {\nblock 0 () {\n\tnum 5;\n\tret (0);\n}\n}\n")
	wantText(t, only(back()), "func 0 () -> () {\nblock 0 () {\n\tret ();\n}\n}\n")
}

func TestNoFunction(t *testing.T) {
	wantFault(t, "nil", api.Module{}, api.ErrMany, -1)
	wantFault(t, "empty", api.Module{Funcs: []api.Func{}}, api.ErrMany, -1)
}

func TestAllTogether(t *testing.T) {
	params := []api.Type{handleOf(2), intType(), tupleAt(0, intType(), tupleAt(1, arrayAt(2), handleOf(1)))}
	m := api.Module{Funcs: []api.Func{
		{
			Results: []api.Type{intType(), intType()},
			Blocks: []api.Block{
				{Code: []api.Ins{{Op: api.INew}, {Op: api.INum, N: -5}, {Op: api.ICall, K: 1, Regs: []int{0, 1, 2}, Args: []int{3, 4}}}, End: api.End{Op: api.EIf, A: 6, Yes: api.To{Block: 1, Regs: []int{0}, Args: []int{7, 8}}, No: api.To{Block: 0}}},
				{Regs: 1, Params: []api.Type{arrayAt(0), intType()}, End: back(1, 1)},
			},
		},
		{
			Regs: 3, Params: params, Results: []api.Type{arrayAt(1)},
			Blocks: []api.Block{{Regs: 3, Params: params, Code: []api.Ins{{Op: api.IOut, A: 1}}, End: api.End{Op: api.EJump, Yes: api.To{Regs: []int{0, 1, 2}, Args: []int{0, 1, 2}}}}},
		},
	}}
	wantText(t, m, "func 0 () -> (int, int) {\nblock 0 () {\n\tnew;\n\tnum -5;\n\tcall 1 <0, 1, 2> (3, 4);\n\tif 6 to 1 <0> (7, 8) else 0 <> ();\n}\nblock 1 (array 0, int) {\n\tret (1, 1);\n}\n}\n"+
		"func 3 (handle 2, int, tuple 0 (int, tuple 1 (array 2, handle 1))) -> (array 1) {\nblock 3 (handle 2, int, tuple 0 (int, tuple 1 (array 2, handle 1))) {\n\tout 1;\n\tjump 0 <0, 1, 2> (0, 1, 2);\n}\n}\n")
}

func TestManyFunctions(t *testing.T) {
	var m api.Module
	var want strings.Builder
	for n := range api.MaxFuncs {
		m.Funcs = append(m.Funcs, only(back(), api.Ins{Op: api.ILen, A: n}).Funcs...)
		want.WriteString(alone("len "+strconv.Itoa(n), "ret ()"))
		wantText(t, m, want.String())
	}
	m.Funcs = append(m.Funcs, m.Funcs[0])
	wantFault(t, "a function more", m, api.ErrMany, -1)
}

func TestManyBlocks(t *testing.T) {
	var blocks []api.Block
	want := "func 0 () -> () {\n"
	for n := range api.MaxBlocks {
		blocks = append(blocks, api.Block{End: api.End{Op: api.EJump, Yes: api.To{Args: []int{n}}}})
		want += fmt.Sprintf("block 0 () {\n\tjump 0 <> (%d);\n}\n", n)
		wantText(t, moduleOf(blocks...), want+"}\n")
	}
	wantFault(t, "a block more", moduleOf(append(blocks, blocks[0])...), api.ErrMany, code.FuncAt(0))
	wantFault(t, "no block", moduleOf(), api.ErrMany, code.FuncAt(0))
}

func TestManyInstructions(t *testing.T) {
	var list []api.Ins
	var lines []string
	for n := range int64(api.MaxCode) {
		wantText(t, only(back(), list...), alone(append(lines, "ret ()")...))
		list = append(list, api.Ins{Op: api.INum, N: n})
		lines = append(lines, "num "+strconv.FormatInt(n, 10))
	}
	wantText(t, only(back(), list...), alone(append(lines, "ret ()")...))
	wantFault(t, "an instruction more", only(back(), append(list, list[0])...), api.ErrMany, code.BlockAt(0, 0))
}

// eachIns has the text of an instruction of each kind, with another number in each field that it has.
func eachIns() map[string]api.Ins {
	return map[string]api.Ins{
		"num 77":                        {Op: api.INum, N: 77},
		"num -77":                       {Op: api.INum, N: -77},
		"bin mul 11 12":                 {Op: api.IBin, A: 11, B: 12, K: api.KMul},
		"new":                           {Op: api.INew},
		"free 21":                       {Op: api.IFree, A: 21},
		"tuple 31 (32, 33)":             {Op: api.ITuple, A: 31, Args: []int{32, 33}},
		"get 41 2":                      {Op: api.IGet, A: 41, K: 2},
		"set 51 3 52":                   {Op: api.ISet, A: 51, B: 52, K: 3},
		"array 61 62":                   {Op: api.IArray, A: 61, B: 62},
		"load 71 72":                    {Op: api.ILoad, A: 71, B: 72},
		"store 81 82 83":                {Op: api.IStore, A: 81, B: 82, C: 83},
		"len 91":                        {Op: api.ILen, A: 91},
		"in":                            {Op: api.IIn},
		"out 101":                       {Op: api.IOut, A: 101},
		"call 1 <111, 112> (113, 0, 7)": {Op: api.ICall, K: 1, Regs: []int{111, 112}, Args: []int{113, 0, 7}},
		"call 0 <> ()":                  {Op: api.ICall},
		"tuple 0 ()":                    {Op: api.ITuple},
		"num 0":                         {Op: api.INum},
		"store 0 0 0":                   {Op: api.IStore},
		"set 0 0 0":                     {Op: api.ISet},
		"get 0 0":                       {Op: api.IGet},
		"load 0 0":                      {Op: api.ILoad},
		"array 0 0":                     {Op: api.IArray},
	}
}

func TestEachInstruction(t *testing.T) {
	kinds := map[int]int{}
	for text, x := range eachIns() {
		kinds[x.Op]++
		m := only(back(), x)
		m.Funcs = append(m.Funcs, only(back()).Funcs...)
		wantText(t, m, alone(text, "ret ()")+alone("ret ()"))
	}
	for k := api.INum; k <= api.ICall; k++ {
		if kinds[k] == 0 {
			t.Errorf("no instruction of the kind %d", k)
		}
	}
}

func TestEachArithmetic(t *testing.T) {
	for i, word := range strings.Fields("add sub mul div mod less eq and xor") {
		wantText(t, only(back(), api.Ins{Op: api.IBin, A: 3, B: 4, K: i + 1}), alone("bin "+word+" 3 4", "ret ()"))
	}
	for _, k := range []int{-1, 0, api.KXor + 1, math.MinInt, math.MaxInt, 1<<32 + 1} {
		wantFault(t, "no arithmetic", only(back(), api.Ins{Op: api.IIn}, api.Ins{Op: api.IBin, K: k}), api.ErrRange, code.InsAt(0, 0, 1))
	}
}

func TestEachEnd(t *testing.T) {
	yes, no := api.To{Block: 1, Regs: []int{5, 6}, Args: []int{7}}, api.To{Block: 2, Regs: []int{8}, Args: []int{9, 10}}
	for text, e := range map[string]api.End{
		"jump 1 <5, 6> (7)": {Op: api.EJump, Yes: yes},
		"jump 0 <> ()":      {Op: api.EJump},
		"if 4 to 1 <5, 6> (7) else 2 <8> (9, 10)": {Op: api.EIf, A: 4, Yes: yes, No: no},
		"if 0 to 2 <8> (9, 10) else 0 <> ()":      {Op: api.EIf, Yes: no},
		"if 0 to 0 <> () else 1 <5, 6> (7)":       {Op: api.EIf, No: yes},
		"ret (3, 2, 1)":                           back(3, 2, 1),
		"ret ()":                                  back(),
	} {
		blocks := []api.Block{{End: e}, {End: back()}, {End: back()}}
		wantText(t, moduleOf(blocks...), "func 0 () -> () {\n"+blockText(text)+blockText("ret ()")+blockText("ret ()")+"}\n")
		blocks = []api.Block{{End: back()}, {End: back()}, {Code: []api.Ins{{Op: api.INew}}, End: e}}
		wantText(t, moduleOf(blocks...), "func 0 () -> () {\n"+blockText("ret ()")+blockText("ret ()")+blockText("new", text)+"}\n")
	}
}

// Types and regions

// withTypes has a list of types over two regions in each of the three places of types, with its text.
func withTypes(params, results, later []api.Type) api.Module {
	return api.Module{Funcs: []api.Func{
		{Blocks: []api.Block{{End: back()}}},
		{Regs: 2, Params: params, Results: results, Blocks: []api.Block{{Regs: 2, Params: params, End: back()}, {Regs: 2, Params: later, End: back()}}},
	}}
}

func withTypesText(params, results, later string) string {
	return alone("ret ()") + "func 2 (" + params + ") -> (" + results + ") {\nblock 2 (" + params + ") {\n\tret ();\n}\nblock 2 (" + later + ") {\n\tret ();\n}\n}\n"
}

func typeLists() map[string][]api.Type {
	deep, deepText := tupleAt(1), "tuple 1 ()"
	for range api.MaxNested {
		deep, deepText = tupleAt(0, deep), "tuple 0 ("+deepText+")"
	}
	return map[string][]api.Type{
		"":                                 nil,
		"int":                              {intType()},
		"handle 0":                         {handleOf(0)},
		"handle 1":                         {handleOf(1)},
		"array 0":                          {arrayAt(0)},
		"array 1":                          {arrayAt(1)},
		"tuple 0 ()":                       {tupleAt(0)},
		"tuple 1 (int)":                    {tupleAt(1, intType())},
		"tuple 0 (int, handle 1, array 0)": {tupleAt(0, intType(), handleOf(1), arrayAt(0))},
		"tuple 0 (tuple 1 (), tuple 0 (int, tuple 1 (array 0, int))), int": {tupleAt(0, tupleAt(1), tupleAt(0, intType(), tupleAt(1, arrayAt(0), intType()))), intType()},
		"int, int": {intType(), intType()},
		"int, handle 0, array 1, tuple 1 (int, int), int, handle 1, array 0, int": {intType(), handleOf(0), arrayAt(1), tupleAt(1, intType(), intType()), intType(), handleOf(1), arrayAt(0), intType()},
		"tuple 1 (int, int, int, int, int, int, int, array 1)":                    {tupleAt(1, append(slices.Repeat([]api.Type{intType()}, 7), arrayAt(1))...)},
		deepText:           {deep},
		"int, " + deepText: {intType(), deep},
	}
}

func TestTypesOfEachKind(t *testing.T) {
	for text, list := range typeLists() {
		wantText(t, withTypes(list, nil, nil), withTypesText(text, "", ""))
		wantText(t, withTypes(nil, list, nil), withTypesText("", text, ""))
		wantText(t, withTypes(nil, nil, list), withTypesText("", "", text))
		wantText(t, withTypes(list, list, list), withTypesText(text, text, text))
	}
}

func TestHowManyResultsThereAre(t *testing.T) {
	for n := range api.MaxParams + 1 {
		m := only(back())
		m.Funcs[0].Results = slices.Repeat([]api.Type{intType()}, n)
		want := strings.TrimSuffix(strings.Repeat("int, ", n), ", ")
		wantText(t, m, "func 0 () -> ("+want+") {\nblock 0 () {\n\tret ();\n}\n}\n")
	}
}

func TestHowManyRegionsThereAre(t *testing.T) {
	for n := range api.MaxRegs + 1 {
		for later := n; later <= api.MaxRegions; later++ {
			m := only(back())
			m.Funcs = append(m.Funcs, api.Func{Regs: n, Blocks: []api.Block{{Regs: n, End: back()}, {Regs: later, End: back()}}})
			wantText(t, m, alone("ret ()")+fmt.Sprintf("func %d () -> () {\nblock %d () {\n\tret ();\n}\nblock %d () {\n\tret ();\n}\n}\n", n, n, later))
		}
	}
}

// Lists of numbers

// listPlace is a place of a list in a line, where % stands; most is how many numbers may be there.
type listPlace struct {
	line string
	most int
	put  func(list []int) api.Module
}

func insPlace(line string, most int, ins func(list []int) api.Ins) listPlace {
	return listPlace{line + ";\n\tret ()", most, func(list []int) api.Module { return only(back(), ins(list)) }}
}

func endPlace(line string, most int, end func(list []int) api.End) listPlace {
	return listPlace{line, most, func(list []int) api.Module { return only(end(list)) }}
}

func listPlaces() []listPlace {
	return []listPlace{
		insPlace("tuple 5 (%)", api.MaxFields, func(list []int) api.Ins { return api.Ins{Op: api.ITuple, A: 5, Args: list} }),
		insPlace("call 0 <%> (6)", api.MaxRegs, func(list []int) api.Ins { return api.Ins{Op: api.ICall, Regs: list, Args: []int{6}} }),
		insPlace("call 0 <6> (%)", api.MaxParams, func(list []int) api.Ins { return api.Ins{Op: api.ICall, Regs: []int{6}, Args: list} }),
		endPlace("jump 0 <%> (6)", api.MaxRegions, func(list []int) api.End {
			return api.End{Op: api.EJump, Yes: api.To{Regs: list, Args: []int{6}}}
		}),
		endPlace("jump 0 <6> (%)", api.MaxParams, func(list []int) api.End {
			return api.End{Op: api.EJump, Yes: api.To{Regs: []int{6}, Args: list}}
		}),
		endPlace("if 7 to 0 <%> (6) else 0 <> ()", api.MaxRegions, func(list []int) api.End {
			return api.End{Op: api.EIf, A: 7, Yes: api.To{Regs: list, Args: []int{6}}}
		}),
		endPlace("if 7 to 0 <> (%) else 0 <6> ()", api.MaxParams, func(list []int) api.End {
			return api.End{Op: api.EIf, A: 7, Yes: api.To{Args: list}, No: api.To{Regs: []int{6}}}
		}),
		endPlace("if 7 to 0 <> () else 0 <%> (6)", api.MaxRegions, func(list []int) api.End {
			return api.End{Op: api.EIf, A: 7, No: api.To{Regs: list, Args: []int{6}}}
		}),
		endPlace("if 7 to 0 <> (6) else 0 <> (%)", api.MaxParams, func(list []int) api.End {
			return api.End{Op: api.EIf, A: 7, Yes: api.To{Args: []int{6}}, No: api.To{Args: list}}
		}),
		endPlace("ret (%)", api.MaxParams, func(list []int) api.End { return back(list...) }),
	}
}

// told puts a text for the % of a line.
func told(line, text string) string { return strings.Replace(line, "%", text, 1) }

func TestListsOfNoneOneAndMany(t *testing.T) {
	for _, p := range listPlaces() {
		text := ""
		var list []int
		for n := range p.most + 1 {
			wantText(t, p.put(list), alone(told(p.line, text)))
			list = append(list, 100+n)
			text = strings.TrimPrefix(text+", "+strconv.Itoa(100+n), ", ")
		}
		at := code.EndAt(0, 0)
		if strings.HasSuffix(p.line, ";\n\tret ()") {
			at = code.InsAt(0, 0, 0)
		}
		wantFault(t, p.line+" with one more", p.put(list), api.ErrMany, at)
	}
}

func TestListsThatAreNilAndEmptyAreTheSame(t *testing.T) {
	for _, p := range listPlaces() {
		wantText(t, p.put(nil), alone(told(p.line, "")))
		wantText(t, p.put([]int{}), alone(told(p.line, "")))
	}
	m := api.Module{Funcs: []api.Func{{Params: []api.Type{}, Results: []api.Type{}, Blocks: []api.Block{{Params: []api.Type{}, Code: []api.Ins{}, End: api.End{Op: api.ERet, Yes: api.To{Regs: []int{}, Args: []int{}}, Args: []int{}}}}}}}
	wantText(t, m, alone("ret ()"))
}
