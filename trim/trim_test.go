package trim

import (
	"fmt"
	"slices"
	"testing"

	"copyhold/api"
	"copyhold/code"
	"copyhold/ideal"
	"copyhold/parse"
	"copyhold/raw"
	"copyhold/twin"
	"copyhold/verify"
)

func moduleOf(t *testing.T, text string) api.Module {
	t.Helper()
	m, fault := parse.Parse(text)
	if fault.Code != 0 {
		t.Fatalf("%s: no module: %v", text, fault)
	}
	return m
}

// told writes every field out; no list and an empty one are told alike.
func told(m api.Module) string { return fmt.Sprint(m) }

// made answers what Make makes of a module that may be run, and looks at what holds of all that is made.
func made(t *testing.T, what string, m api.Module) api.Module {
	t.Helper()
	ahead := fmt.Sprintf("%#v", m)
	got, fault := Make(m)
	if fault != (api.Fault{}) {
		t.Fatalf("%s: Make = %v", what, fault)
	}
	if again, fault := Make(m); fault != (api.Fault{}) || told(again) != told(got) {
		t.Errorf("%s: a second time: %v, %v, ahead of that %v", what, again, fault, got)
	}
	if fault := verify.Check(got); fault.Code != 0 {
		t.Errorf("%s: what was made may not be run: %v", what, fault)
	}
	if twice, fault := Make(got); fault != (api.Fault{}) || told(twice) != told(got) || !code.Same(twice, got) {
		t.Errorf("%s: made of what was made: %v, %v, want %v", what, twice, fault, got)
	}
	if now := fmt.Sprintf("%#v", m); now != ahead {
		t.Errorf("%s: the module was changed: %s, want %s", what, now, ahead)
	}
	return got
}

// wantMade: that is made of m, and comes to the same.
func wantMade(t *testing.T, what string, m, want api.Module) {
	t.Helper()
	got := made(t, what, m)
	if told(got) != told(want) || !code.Same(got, want) {
		t.Errorf("%s: Make = %v, want %v", what, got, want)
	}
	wantSameRuns(t, what, m, got)
}

func wantText(t *testing.T, text, want string) {
	t.Helper()
	wantMade(t, text, moduleOf(t, text), moduleOf(t, want))
}

// wantAll: nothing of it goes.
func wantAll(t *testing.T, what string, m api.Module) {
	t.Helper()
	wantMade(t, what, m, code.Own(m))
}

// wantSameRun answers what both come to: the one by a machine that sees, the other by one that sees nothing.
func wantSameRun(t *testing.T, what string, m, made api.Module, in []int64, fuel, pages int) api.Outcome {
	t.Helper()
	want, fault := ideal.Run(m, in, fuel, pages)
	if fault.Code != 0 {
		t.Fatalf("%s: no run: %v", what, fault)
	}
	got, fault := raw.Run(made, in, fuel, pages)
	if fault.Code != 0 || fmt.Sprint(got) != fmt.Sprint(want) || !twin.Same(got, want) {
		t.Errorf("%s: with %v, %d, %d what was made comes to %v, %v, want %v", what, in, fuel, pages, got, fault, want)
	}
	return want
}

func wantSameRuns(t *testing.T, what string, m, made api.Module) {
	t.Helper()
	for _, in := range [][]int64{nil, {0, 0, 0, 0, 0, 0}, {1, 1, 1, 1, 1, 1}, {0, 1, 0, 0, 1, 1, 0, 1, 0}, {1, 0, 0, 1, 1, 0, 1, 1, 0, 0}} {
		wantSameRun(t, what, m, made, in, 90, 3)
	}
	wantSameRun(t, what, m, made, []int64{1}, 3, 0)
}

// What is handed about here: functions without regions, whose blocks each tell their own number, so that none is taken for another.

// blocksOf is a function whose block i tells labels[i], and ends by leading to the blocks ends[i]: to none (it goes back), to one, or to the first of two if what comes in is not 0.
func blocksOf(labels []int, ends [][]int) api.Func {
	var f api.Func
	for i, list := range ends {
		b := api.Block{Code: []api.Ins{{Op: api.INum, N: int64(labels[i])}, {Op: api.IOut}}, End: api.End{Op: api.ERet}}
		switch len(list) {
		case 1:
			b.End = api.End{Op: api.EJump, Yes: api.To{Block: list[0]}}
		case 2:
			b.Code = append(b.Code, api.Ins{Op: api.IIn})
			b.End = api.End{Op: api.EIf, A: 1, Yes: api.To{Block: list[0]}, No: api.To{Block: list[1]}}
		}
		f.Blocks = append(f.Blocks, b)
	}
	return f
}

// upTo answers the numbers 0 to n - 1.
func upTo(n int) []int {
	list := []int{}
	for i := range n {
		list = append(list, i)
	}
	return list
}

// wantBlocks: of blocks with such ends those that stay are left, with the ends made; the same of the function 0 and of one that is called.
func wantBlocks(t *testing.T, ends [][]int, stay []int, made [][]int) {
	t.Helper()
	what := fmt.Sprint("the blocks ", ends)
	from, to := blocksOf(upTo(len(ends)), ends), blocksOf(stay, made)
	wantMade(t, what, api.Module{Funcs: []api.Func{from}}, api.Module{Funcs: []api.Func{to}})
	wantMade(t, what+" of the function 1", api.Module{Funcs: []api.Func{callerOf(1), from}}, api.Module{Funcs: []api.Func{callerOf(1), to}})
}

// callerOf is a function of one block, with calls.
func callerOf(list ...int) api.Func {
	return api.Func{Blocks: []api.Block{{Code: calls(list), End: api.End{Op: api.ERet}}}}
}

func calls(list []int) []api.Ins {
	var made []api.Ins
	for _, k := range list {
		made = append(made, api.Ins{Op: api.ICall, K: k})
	}
	return made
}

// funcsOf is a module whose function i tells labels[i], asks for a number that comes in, and calls the functions list[i], one behind the other, if it is not 0.
func funcsOf(labels []int, list [][]int) api.Module {
	var m api.Module
	for i, called := range list {
		f := blocksOf([]int{labels[i], 100 + labels[i], 200 + labels[i]}, [][]int{{1, 2}, nil, nil})
		f.Blocks[1].Code = append(f.Blocks[1].Code, calls(called)...)
		m.Funcs = append(m.Funcs, f)
	}
	return m
}

// wantFuncs: of functions with such calls those that stay are left, with the calls made.
func wantFuncs(t *testing.T, list [][]int, stay []int, made [][]int) {
	t.Helper()
	wantMade(t, fmt.Sprint("the functions ", list), funcsOf(upTo(len(list)), list), funcsOf(stay, made))
}

// Examples

func TestTheLeastModule(t *testing.T) {
	wantAll(t, "one block", api.Module{Funcs: []api.Func{callerOf()}})
	wantBlocks(t, [][]int{nil}, []int{0}, [][]int{nil})
	wantFuncs(t, [][]int{nil}, []int{0}, [][]int{nil})
}

func TestBlocksAndFunctionsAtOnce(t *testing.T) {
	wantText(t, `
func 0 () -> () { block 0 () { jump 2 <> (); } block 0 () { call 1 <> (); ret (); } block 0 () { call 2 <> (); ret (); } }
func 0 () -> () { block 0 () { ret (); } }
func 0 () -> () { block 0 () { num 2; out 0; ret (); } }`, `
func 0 () -> () { block 0 () { jump 1 <> (); } block 0 () { call 1 <> (); ret (); } }
func 0 () -> () { block 0 () { num 2; out 0; ret (); } }`)
}

func TestNothingGoes(t *testing.T) {
	wantAll(t, "several", moduleOf(t, several))
	wantAll(t, "kept", moduleOf(t, kept))
	ring := slices.Repeat([][]int{nil}, api.MaxBlocks)
	for i := range ring {
		ring[i] = []int{(i + 5) % api.MaxBlocks}
	}
	wantBlocks(t, ring, upTo(api.MaxBlocks), ring)
	wantFuncs(t, [][]int{{1}, {2}, {3}, {4}, {5}, {6}, {7}, {0}}, upTo(8), [][]int{{1}, {2}, {3}, {4}, {5}, {6}, {7}, {0}})
}
