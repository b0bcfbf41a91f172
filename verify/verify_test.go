package verify

import (
	"fmt"
	"slices"
	"testing"

	"copyhold/api"
	"copyhold/code"
	"copyhold/parse"
)

func num(n int64) api.Ins                { return api.Ins{Op: api.INum, N: n} }
func bin(a, b int) api.Ins               { return api.Ins{Op: api.IBin, A: a, B: b, K: api.KAdd} }
func fresh() api.Ins                     { return api.Ins{Op: api.INew} }
func free(a int) api.Ins                 { return api.Ins{Op: api.IFree, A: a} }
func tuple(a int, args ...int) api.Ins   { return api.Ins{Op: api.ITuple, A: a, Args: args} }
func get(a, k int) api.Ins               { return api.Ins{Op: api.IGet, A: a, K: k} }
func set(a, k, b int) api.Ins            { return api.Ins{Op: api.ISet, A: a, K: k, B: b} }
func array(a, b int) api.Ins             { return api.Ins{Op: api.IArray, A: a, B: b} }
func load(a, b int) api.Ins              { return api.Ins{Op: api.ILoad, A: a, B: b} }
func store(a, b, c int) api.Ins          { return api.Ins{Op: api.IStore, A: a, B: b, C: c} }
func length(a int) api.Ins               { return api.Ins{Op: api.ILen, A: a} }
func comesIn() api.Ins                   { return api.Ins{Op: api.IIn} }
func out(a int) api.Ins                  { return api.Ins{Op: api.IOut, A: a} }
func regs(list ...int) []int             { return list }
func to(b int, r []int, a ...int) api.To { return api.To{Block: b, Regs: r, Args: a} }
func jump(yes api.To) api.End            { return api.End{Op: api.EJump, Yes: yes} }
func fork(a int, yes, no api.To) api.End { return api.End{Op: api.EIf, A: a, Yes: yes, No: no} }
func back(args ...int) api.End           { return api.End{Op: api.ERet, Args: args} }

func call(k int, r []int, args ...int) api.Ins {
	return api.Ins{Op: api.ICall, K: k, Regs: r, Args: args}
}

func upTo(n int) []int {
	var list []int
	for r := range n {
		list = append(list, r)
	}
	return list
}

func moduleOf(t *testing.T, text string) api.Module {
	t.Helper()
	m, fault := parse.Parse(text)
	if fault.Code != 0 {
		t.Fatalf("%s: no module: %v", text, fault)
	}
	return m
}

// oneBlock is a module of one block, without results.
func oneBlock(list ...api.Ins) api.Module {
	return api.Module{Funcs: []api.Func{{Blocks: []api.Block{{Code: list, End: back()}}}}}
}

// wantCheck looks, too, that the module stays as it was, and that it is told the same a second time.
func wantCheck(t *testing.T, what string, m api.Module, kind, at int) {
	t.Helper()
	ahead := fmt.Sprintf("%#v", m)
	want := api.Fault{Code: kind, At: at}
	for range 2 {
		if got := Check(m); got != want {
			t.Errorf("%s: Check = %v, want %v", what, got, want)
		}
	}
	if now := fmt.Sprintf("%#v", m); now != ahead {
		t.Errorf("%s: the module was changed: %s, want %s", what, now, ahead)
	}
}

func wantText(t *testing.T, text string, kind, at int) {
	t.Helper()
	wantCheck(t, text, moduleOf(t, text), kind, at)
}

// P12.1: what may be run

func TestModulesOfOneBlock(t *testing.T) {
	for _, text := range []string{
		"func 0 () -> () { block 0 () { ret (); } }",
		"func 0 () -> (int) { block 0 () { num 5; ret (0); } }",
		"func 0 () -> (int, int) { block 0 () { in; num 2; bin mul 0 1; out 2; ret (2, 0); } }",
		"func 0 () -> () { block 0 () { new; free 0; ret (); } }",
		"func 0 () -> () { block 0 () { new; new; free 0; free 1; ret (); } }",
		"func 0 () -> () { block 0 () { new; new; free 1; free 0; ret (); } }",
		"func 0 () -> () { block 0 () { new; num 1; tuple 0 (1); free 0; ret (); } }",
		"func 0 () -> (int) { block 0 () { new; num 1; tuple 0 (1, 1); get 2 1; set 2 0 3; free 0; ret (3); } }",
		"func 0 () -> (int) { block 0 () { new; num 3; array 0 1; load 2 1; store 2 3 1; len 2; free 0; ret (4); } }",
		"func 0 () -> () { block 0 () { new; new; tuple 0 (1); tuple 1 (2, 0); get 3 1; free 4; get 3 0; free 1; ret (); } }",
	} {
		wantText(t, text, 0, 0)
	}
}

func TestModulesOfSeveralBlocks(t *testing.T) {
	for _, text := range []string{
		"func 0 () -> () { block 0 () { jump 0 <> (); } }",
		"func 0 () -> () { block 0 () { jump 1 <> (); } block 0 () { jump 0 <> (); } }",
		"func 0 () -> () { block 0 () { jump 2 <> (); } block 0 () { ret (); } block 0 () { jump 1 <> (); } }",
		"func 0 () -> (int) { block 0 () { in; if 0 to 1 <> (0) else 2 <> (); } block 0 (int) { ret (0); } block 0 () { in; if 0 to 0 <> () else 2 <> (); } }",
		"func 0 () -> () { block 0 () { new; new; num 4; array 1 2; jump 1 <1, 0> (3, 0, 1); } block 2 (array 0, handle 1, handle 0) { len 0; free 1; if 3 to 2 <0> (2) else 2 <0> (2); } block 1 (handle 0) { free 0; ret (); } }",
		"func 0 () -> () { block 0 () { new; jump 1 <0> (0); } block 1 (handle 0) { new; free 0; jump 1 <1> (1); } }",
	} {
		wantText(t, text, 0, 0)
	}
}

// busy has calls back and forth, by other names, too, and jumps and ifs back and forth, with regions of the caller's and of its own.
const busy = `
func 0 () -> (int) {
	block 0 () { new; new; num 3; array 1 2; call 1 <1, 0> (3, 0); call 1 <0, 1> (4, 1); free 0; if 2 to 1 <1> (1, 2) else 2 <1> (1); }
	block 1 (handle 0, int) { call 2 <0> (0, 1); call 0 <> (); bin add 2 3; if 4 to 1 <0> (0, 4) else 2 <0> (0); }
	block 1 (handle 0) { free 0; num 9; ret (1); }
}
func 2 (array 0, handle 1) -> (array 1) {
	block 2 (array 0, handle 1) { len 0; array 1 2; new; jump 1 <0, 1, 2> (3, 0, 4); }
	block 3 (array 1, array 0, handle 2) { num 0; load 1 3; if 4 to 2 <0, 1, 2> (2, 0) else 1 <0, 1, 2> (0, 1, 2); }
	block 3 (handle 2, array 1) { free 0; jump 3 <0, 1> (1); }
	block 2 (array 1) { ret (0); }
}
func 1 (handle 0, int) -> (int) {
	block 1 (handle 0, int) { tuple 0 (0, 1); get 2 0; call 2 <0> (3, 1); ret (4); }
}`

func TestModulesOfSeveralFunctions(t *testing.T) {
	for _, text := range []string{
		"func 0 () -> () { block 0 () { call 0 <> (); ret (); } }",
		"func 0 () -> (int) { block 0 () { call 1 <> (); ret (0); } } func 0 () -> (int) { block 0 () { call 0 <> (); ret (0); } }",
		"func 0 () -> () { block 0 () { new; call 1 <0> (0); free 0; ret (); } } func 1 (handle 0) -> () { block 1 (handle 0) { num 1; tuple 0 (1); ret (); } }",
		"func 0 () -> () { block 0 () { ret (); } } func 0 () -> () { block 0 () { ret (); } } func 1 (handle 0) -> (handle 0) { block 1 (handle 0) { ret (0); } }",
	} {
		wantText(t, text, 0, 0)
	}
	wantText(t, busy, 0, 0)
	m := moduleOf(t, busy)
	m.Funcs[1].Blocks[1].End.Yes = to(3, regs(0, 1), 0)
	wantCheck(t, "the region 2 is left on one way", m, api.ErrLeft, 10191)
}

// Examples

func TestTheExampleOfTheChapter(t *testing.T) {
	wantText(t, "func 0 () -> () { block 0 () { new; num 1; tuple 0 (1); free 0; get 2 0; ret (); } }", api.ErrHeld, 4)
}

func TestTheExamplesOfTheDocument(t *testing.T) {
	wantText(t, "func 0 () -> () { block 0 () { new; num 1; tuple 0 (1); free 0; ret (); } }", 0, 0)
	wantText(t, "func 0 () -> () { block 0 () { new; jump 1 <0> (0); } block 1 (handle 0) { new; free 0; jump 1 <1> (1); } }", 0, 0)
	wantText(t, "func 0 () -> () { block 0 () { new; ret (); } }", api.ErrLeft, 91)
}

// The edges

// greatest has as many functions, blocks and instructions as can be, and in each block as many values as its instructions make.
func greatest() api.Module {
	var m api.Module
	for range api.MaxFuncs {
		block := api.Block{Code: slices.Repeat([]api.Ins{num(1)}, api.MaxCode), End: back()}
		m.Funcs = append(m.Funcs, api.Func{Blocks: slices.Repeat([]api.Block{block}, api.MaxBlocks)})
	}
	return code.Own(m)
}

func TestTheGreatestModule(t *testing.T) {
	wantCheck(t, "right", greatest(), 0, 0)
	for f := range api.MaxFuncs {
		for _, b := range []int{0, 1, 5, api.MaxBlocks - 1} {
			m := greatest()
			for _, i := range []int{api.MaxCode - 1, 17, 0} {
				m.Funcs[f].Blocks[b].Code[i] = out(i)
				if got, want := Check(m), (api.Fault{Code: api.ErrRange, At: f*10000 + b*100 + i}); got != want {
					t.Errorf("a value that is not there yet: %v, want %v", got, want)
				}
			}
		}
	}
}

func TestTheGreatestEnds(t *testing.T) {
	for f := range api.MaxFuncs {
		for _, b := range []int{0, 6, api.MaxBlocks - 1} {
			m := greatest()
			m.Funcs[f].Blocks[b].End = fork(api.MaxCode, to(0, nil), to(0, nil))
			if got, want := Check(m), (api.Fault{Code: api.ErrRange, At: f*10000 + b*100 + 91}); got != want {
				t.Errorf("an end by no value: %v, want %v", got, want)
			}
			m.Funcs[f].Blocks[b].End.A--
			if got := Check(m); got != (api.Fault{}) {
				t.Errorf("an end by the last value: %v", got)
			}
		}
	}
}

func TestMoreThanCanBe(t *testing.T) {
	m := greatest()
	m.Funcs[7].Blocks[11].Code = append(m.Funcs[7].Blocks[11].Code, num(1))
	wantCheck(t, "instructions", m, api.ErrMany, code.BlockAt(7, 11))
	m = greatest()
	m.Funcs[7].Blocks = append(m.Funcs[7].Blocks, m.Funcs[7].Blocks[0])
	wantCheck(t, "blocks", m, api.ErrMany, code.FuncAt(7))
	m = greatest()
	m.Funcs = append(m.Funcs, m.Funcs[0])
	wantCheck(t, "functions", m, api.ErrMany, -1)
}

func TestTheMostValues(t *testing.T) {
	// of the function 1: 8 of the block's own, and 9 times 8 that calls make
	m := moduleOf(t, `
func 0 () -> () { block 0 () { ret (); } }
func 0 (int, int, int, int, int, int, int, int) -> (int, int, int, int, int, int, int, int) {
	block 0 (int, int, int, int, int, int, int, int) { ret (7, 6, 5, 4, 3, 2, 1, 0); }
}`)
	block := &m.Funcs[1].Blocks[0]
	block.Code = slices.Repeat([]api.Ins{call(1, nil, upTo(8)...)}, 9)
	block.End = back(79, 78, 77, 76, 75, 74, 73, 72)
	wantCheck(t, "80 values", m, 0, 0)
	block.Code = append(block.Code, out(79))
	wantCheck(t, "80 values, and nothing made", m, 0, 0)
	for _, x := range []api.Ins{num(1), bin(0, 1), comesIn(), call(1, nil, upTo(8)...), fresh()} {
		block.Code = append(block.Code[:10], x)
		wantCheck(t, fmt.Sprint("80 values, then the kind ", x.Op), m, api.ErrMany, 10010)
	}
	block.Code = append(block.Code[:8], slices.Repeat([]api.Ins{num(2)}, 8)...)
	wantCheck(t, "80 values one by one", m, 0, 0)
	block.Code = append(block.Code, num(2))
	wantCheck(t, "one more", m, api.ErrMany, 10016)
}

func TestTheMostRegions(t *testing.T) {
	var list []api.Ins
	for range api.MaxRegions {
		list = append(list, fresh())
	}
	for r := range api.MaxRegions {
		list = append(list, free(r))
	}
	wantCheck(t, "16 regions at once", oneBlock(list...), 0, 0)
	wantCheck(t, "16 regions, and one more", oneBlock(slices.Insert(slices.Clone(list), 16, fresh())...), api.ErrMany, 16)
	wantCheck(t, "16 regions one behind the other, and one more", oneBlock(append(list, fresh())...), api.ErrMany, 32)
	m := oneBlock(list[:16]...)
	m.Funcs[0].Blocks[0].End = jump(to(1, upTo(16)))
	m.Funcs[0].Blocks = append(m.Funcs[0].Blocks, api.Block{Regs: 16, End: jump(to(1, upTo(16)))})
	wantCheck(t, "16 regions handed on", m, 0, 0)
	m.Funcs[0].Blocks[1].Code = []api.Ins{fresh()}
	wantCheck(t, "16 regions handed on, and one more", m, api.ErrMany, 100)
}

// Memory

func TestNothingBehindAListsLengthIsReadOrWritten(t *testing.T) {
	text := "func 0 () -> (int) { block 0 () { new; num 1; tuple 0 (1); jump 1 <0> (0, 1); } block 1 (handle 0, int) { free 0; ret (1); } }"
	m := moduleOf(t, text)
	wrong := api.Ins{Op: 99, A: -1}
	blocks := &m.Funcs[0].Blocks
	hidden := append((*blocks)[1].Code, wrong)
	(*blocks)[1].Code = hidden[:1]
	args := append((*blocks)[0].Code[2].Args, -7)
	(*blocks)[0].Code[2].Args = args[:1]
	names := append((*blocks)[0].End.Yes.Regs, -7)
	(*blocks)[0].End.Yes.Regs = names[:1]
	more := append(*blocks, api.Block{Regs: -9})
	*blocks = more[:2]
	wantCheck(t, "with more behind", m, 0, 0)
	if fmt.Sprint(hidden[1]) != fmt.Sprint(wrong) || args[1] != -7 || names[1] != -7 || more[2].Regs != -9 {
		t.Errorf("what lies behind the lists was changed: %v, %v, %v, %v", hidden[1], args[1], names[1], more[2])
	}
}

func TestTheAnswerHangsOnTheModuleAlone(t *testing.T) {
	right := moduleOf(t, "func 0 () -> () { block 0 () { new; free 0; ret (); } }")
	left := moduleOf(t, "func 0 () -> () { block 0 () { new; ret (); } }")
	for range 5 {
		wantCheck(t, "right", right, 0, 0)
		wantCheck(t, "left", left, api.ErrLeft, 91)
		wantCheck(t, "none", api.Module{}, api.ErrMany, -1)
		wantCheck(t, "like it", code.Own(left), api.ErrLeft, 91)
	}
	left.Funcs[0].Blocks[0].Code = append(left.Funcs[0].Blocks[0].Code, free(0))
	wantCheck(t, "no longer left", left, 0, 0)
}

// No list and an empty one are the same.
func TestEmptyLists(t *testing.T) {
	m := api.Module{Funcs: []api.Func{{Params: []api.Type{}, Results: []api.Type{}, Blocks: []api.Block{{
		Params: []api.Type{}, Code: []api.Ins{{Op: api.INum, Regs: []int{}, Args: []int{}}, {Op: api.ICall, Regs: []int{}, Args: []int{}}},
		End: api.End{Op: api.ERet, Yes: to(0, []int{}), No: to(0, []int{}), Args: []int{}},
	}}}}}
	wantCheck(t, "empty lists", m, 0, 0)
	m.Funcs[0].Blocks[0].Code = []api.Ins{}
	wantCheck(t, "no instructions", m, 0, 0)
}
