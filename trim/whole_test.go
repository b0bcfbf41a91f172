package trim

import (
	"fmt"
	"math"
	"reflect"
	"slices"
	"testing"

	"copyhold/api"
	"copyhold/code"
	"copyhold/verify"
)

// What stays is as it was, but for the numbers of blocks and functions

// several has calls, an if, a jump, things, and numbers that come in and go out.
const several = `
func 0 () -> (int, int) {
	block 0 () { in; new; call 1 <0> (1, 0); in; out 3; jump 1 <0> (2, 1, 3); }
	block 1 (array 0, handle 0, int) { len 0; load 0 2; out 3; free 1; if 4 to 2 <> (3, 4) else 2 <> (4, 4); }
	block 0 (int, int) { ret (0, 1); }
}
func 1 (handle 0, int) -> (array 0) {
	block 1 (handle 0, int) { array 0 1; num 1; num 7; store 2 3 4; ret (2); }
}
`

// rich has every kind of instruction and end, in blocks and functions that stay behind others that go. All other numbers are such that one who took them for a block's or a function's would change them.
const rich = `
func 0 () -> (int, int) {
	block 0 () { new; new; num 3; num 1; array 1 2; call 3 <1, 0> (4, 0, 3); jump 4 <1, 0> (5, 0, 4, 1); }
	block 1 (int) { jump 8 <0> (0); }
	block 1 (handle 0) { free 0; call 1 <> (); num 2; ret (1, 1); }
	block 0 () { call 2 <> (); ret (0, 0); }
	block 2 (tuple 1 (array 0, int), handle 1, array 0, handle 0) { get 0 1; num 2; load 2 5; set 0 1 6; len 2; in; store 2 4 7; bin xor 8 6; call 4 <1, 0> (1, 5); if 9 to 6 <1, 0> (0, 1, 9) else 7 <0, 1> (3, 1, 4); }
	block 0 () { jump 3 <> (); }
	block 2 (tuple 0 (array 1, int), handle 0, int) { get 0 1; out 2; bin mul 2 3; tuple 1 (0, 4, 1); get 5 0; get 6 1; out 7; free 1; jump 8 <1> (4); }
	block 2 (handle 0, handle 1, int) { free 1; call 0 <> (); bin less 4 2; jump 9 <0> (0, 3, 5); }
	block 1 (int) { call 5 <0> (); jump 10 <0> (0); }
	block 1 (handle 0, int, int) { free 0; ret (1, 2); }
	block 1 (int) { num 7; jump 11 <0> (1, 0); }
	block 1 (int, int) { num 9; jump 8 <0> (1); }
}
func 0 () -> () { block 0 () { call 2 <> (); ret (); } }
func 0 () -> (int) { block 0 () { call 1 <> (); num 1; ret (0); } }
func 2 (array 0, handle 1, int) -> (tuple 1 (array 0, int), int) {
	block 2 (array 0, handle 1, int) { num 4; new; jump 3 <0, 1, 2> (1, 0, 2, 4); }
	block 2 (array 0) { jump 2 <0, 1> (0); }
	block 2 (array 0) { jump 1 <0, 1> (0); }
	block 3 (handle 1, array 0, int, handle 2) { tuple 0 (1, 2); free 3; ret (4, 2); }
}
func 2 (handle 0, int) -> (int) {
	block 2 (handle 0, int) { jump 2 <0, 1> (1); }
	block 2 () { call 6 <0> (); jump 2 <0, 1> (0); }
	block 2 (int) { call 5 <0> (); bin and 0 1; ret (2); }
}
func 1 () -> (int) {
	block 1 () { num 5; if 0 to 2 <0> () else 2 <0> (); }
	block 1 () { call 7 <> (); jump 0 <0> (); }
	block 1 () { num 4; ret (0); }
}
func 1 () -> (int) { block 1 () { call 6 <0> (); ret (0); } }
func 0 () -> () { block 0 () { ret (); } }
`

// kept is what stays of it.
const kept = `
func 0 () -> (int, int) {
	block 0 () { new; new; num 3; num 1; array 1 2; call 1 <1, 0> (4, 0, 3); jump 1 <1, 0> (5, 0, 4, 1); }
	block 2 (tuple 1 (array 0, int), handle 1, array 0, handle 0) { get 0 1; num 2; load 2 5; set 0 1 6; len 2; in; store 2 4 7; bin xor 8 6; call 2 <1, 0> (1, 5); if 9 to 2 <1, 0> (0, 1, 9) else 3 <0, 1> (3, 1, 4); }
	block 2 (tuple 0 (array 1, int), handle 0, int) { get 0 1; out 2; bin mul 2 3; tuple 1 (0, 4, 1); get 5 0; get 6 1; out 7; free 1; jump 4 <1> (4); }
	block 2 (handle 0, handle 1, int) { free 1; call 0 <> (); bin less 4 2; jump 5 <0> (0, 3, 5); }
	block 1 (int) { call 3 <0> (); jump 6 <0> (0); }
	block 1 (handle 0, int, int) { free 0; ret (1, 2); }
	block 1 (int) { num 7; jump 7 <0> (1, 0); }
	block 1 (int, int) { num 9; jump 4 <0> (1); }
}
func 2 (array 0, handle 1, int) -> (tuple 1 (array 0, int), int) {
	block 2 (array 0, handle 1, int) { num 4; new; jump 1 <0, 1, 2> (1, 0, 2, 4); }
	block 3 (handle 1, array 0, int, handle 2) { tuple 0 (1, 2); free 3; ret (4, 2); }
}
func 2 (handle 0, int) -> (int) {
	block 2 (handle 0, int) { jump 1 <0, 1> (1); }
	block 2 (int) { call 3 <0> (); bin and 0 1; ret (2); }
}
func 1 () -> (int) {
	block 1 () { num 5; if 0 to 1 <0> () else 1 <0> (); }
	block 1 () { num 4; ret (0); }
}
`

func TestAllElseStaysAsItWas(t *testing.T) {
	wantText(t, rich, kept)
	wantAsPlain(t, "rich", moduleOf(t, rich))
}

func TestNumbersOfEachKindStay(t *testing.T) {
	// the number 1 becomes 0 nowhere but in a call and where an end leads
	for kind := api.KAdd; kind <= api.KXor; kind++ {
		m := moduleOf(t, "func 0 () -> (int) { block 0 () { num 1; num 2; bin add 1 0; jump 2 <> (2); } block 0 () { jump 1 <> (); } block 0 (int) { ret (0); } } func 0 () -> () { block 0 () { ret (); } }")
		m.Funcs[0].Blocks[0].Code[2].K = kind
		wantAsPlain(t, fmt.Sprint("the kind ", kind), m)
	}
	for field := range api.MaxFields {
		m := moduleOf(t, "func 0 () -> (int) { block 0 () { new; num 1; tuple 0 (1, 1, 1, 1, 1, 1, 1, 1); get 2 0; set 2 0 3; free 0; ret (3); } } func 0 () -> () { block 0 () { ret (); } }")
		m.Funcs[0].Blocks[0].Code[3].K, m.Funcs[0].Blocks[0].Code[4].K = field, field
		wantAsPlain(t, fmt.Sprint("the field ", field), m)
	}
	for _, n := range []int64{0, 1, 2, -1, math.MinInt64, math.MaxInt64, 1 << 32} {
		m := blocksOf([]int{0, 1, 2}, [][]int{{2}, nil, nil})
		m.Blocks[2].Code[0].N = n
		wantAsPlain(t, fmt.Sprint("the number ", n), api.Module{Funcs: []api.Func{m, callerOf(1)}})
	}
}

func TestTypesOfBlocksThatStay(t *testing.T) {
	// a type is the same of no kind of block that goes, nor of what is ahead of it
	wantText(t,
		"func 0 () -> () { block 0 () { new; tuple 0 (); new; jump 3 <0, 1> (1, 0, 2); } block 2 (handle 1, tuple 1 (), handle 0) { free 0; free 2; ret (); } block 1 (handle 0) { free 0; ret (); } block 2 (tuple 0 (), handle 0, handle 1) { free 2; free 1; ret (); } }",
		"func 0 () -> () { block 0 () { new; tuple 0 (); new; jump 1 <0, 1> (1, 0, 2); } block 2 (tuple 0 (), handle 0, handle 1) { free 2; free 1; ret (); } }")
}

// greatest is as great a module as there may be: each block has calls alone, of the function behind its own, and leads to the two blocks behind it.
func greatest() api.Module {
	return tall(func(f, b int) (int, api.End) {
		yes, no := (b+1)%api.MaxBlocks, (b+2)%api.MaxBlocks
		return (f + 1) % api.MaxFuncs, api.End{Op: api.EIf, A: 0, Yes: api.To{Block: yes}, No: api.To{Block: no}}
	})
}

// tall has as many functions, blocks and instructions as there may be; block tells what is called in a block, and how it ends.
func tall(block func(f, b int) (int, api.End)) api.Module {
	var m api.Module
	for f := range api.MaxFuncs {
		var x api.Func
		for b := range api.MaxBlocks {
			k, end := block(f, b)
			list := slices.Repeat([]api.Ins{{Op: api.ICall, K: k}}, api.MaxCode)
			list[0] = api.Ins{Op: api.INum, N: int64(100*f + b)}
			x.Blocks = append(x.Blocks, api.Block{Code: list, End: end})
		}
		m.Funcs = append(m.Funcs, x)
	}
	return m
}

func TestAsMuchAsThereMayBe(t *testing.T) {
	wantAll(t, "the greatest", greatest())
	back := api.End{Op: api.ERet}
	wantAsPlain(t, "each second block", tall(func(f, b int) (int, api.End) {
		return (f + 1) % api.MaxFuncs, api.End{Op: api.EJump, Yes: api.To{Block: (b + 2) % api.MaxBlocks}}
	}))
	wantAsPlain(t, "each second function", tall(func(f, b int) (int, api.End) {
		return (f + 2) % api.MaxFuncs, api.End{Op: api.EJump, Yes: api.To{Block: (b + 5) % api.MaxBlocks}}
	}))
	only := tall(func(f, b int) (int, api.End) { return (f + b) % api.MaxFuncs, back })
	want := api.Module{Funcs: []api.Func{{Blocks: only.Funcs[0].Blocks[:1]}}}
	wantMade(t, "the first block alone", only, want)
}

// What holds everywhere

// eachList goes through all lists of a thing.
func eachList(v reflect.Value, visit func(v reflect.Value)) {
	switch v.Kind() {
	case reflect.Slice:
		for i := range v.Len() {
			eachList(v.Index(i), visit)
		}
		visit(v)
	case reflect.Struct:
		for i := range v.NumField() {
			eachList(v.Field(i), visit)
		}
	}
}

// spoil overwrites all memory of all lists of a module, and what they may grow into.
func spoil(m api.Module) {
	eachList(reflect.ValueOf(m), func(v reflect.Value) {
		whole := v.Slice(0, v.Cap())
		for i := range whole.Len() {
			spoilNumbers(whole.Index(i))
		}
	})
}

func spoilNumbers(v reflect.Value) {
	switch v.Kind() {
	case reflect.Struct:
		for i := range v.NumField() {
			spoilNumbers(v.Field(i))
		}
	case reflect.Int, reflect.Int64:
		v.SetInt(-v.Int() - 1000)
	}
}

// entwined is a module whose lists share memory wherever they can, and that may be run.
func entwined() api.Module {
	numbers := []int{1, 0, 1, 0}
	handles := []api.Type{{Kind: api.THandle}, {Kind: api.THandle, R: 1}, {Kind: api.TInt}}
	list := []api.Ins{
		{Op: api.ICall, K: 3, Regs: numbers[:2], Args: numbers[:2]},
		{Op: api.ITuple, A: 0, Args: numbers[1:4]},
		{Op: api.ICall, K: 3, Regs: numbers[:2], Args: numbers[2:]},
		{Op: api.ITuple, A: 0, Args: numbers[:0]},
	}
	to := api.To{Block: 2, Regs: numbers[1:3], Args: numbers[1:3]}
	block := api.Block{Regs: 2, Params: handles[:2], Code: list, End: api.End{Op: api.EJump, Yes: to}}
	back := api.Block{Regs: 2, Params: handles[:2], Code: list[:2], End: api.End{Op: api.ERet, Args: numbers[:0]}}
	fork := api.Block{Regs: 2, Params: handles, Code: list, End: api.End{Op: api.EIf, A: 2, Yes: to, No: to}}
	f := api.Func{Regs: 2, Params: handles[:2], Results: handles[:0], Blocks: []api.Block{block, fork, block, back}}
	g := f
	g.Blocks = f.Blocks[:3]
	begin := api.Func{Results: handles[2:], Blocks: []api.Block{{
		Code: []api.Ins{{Op: api.INew}, {Op: api.INew}, {Op: api.ICall, K: 3, Regs: numbers[:2], Args: numbers[:2]}, {Op: api.INum, N: 3}, {Op: api.IFree, A: 0}, {Op: api.IFree, A: 1}},
		End:  api.End{Op: api.ERet, Args: []int{2}},
	}}}
	return api.Module{Funcs: []api.Func{begin, g, f, g}}
}

func TestOfAModuleWhoseListsShareMemory(t *testing.T) {
	m := entwined()
	if fault := verify.Check(m); fault.Code != 0 {
		t.Fatalf("it may not be run: %v", fault)
	}
	wantAsPlain(t, "entwined", m)
	got := made(t, "entwined", m)
	if n := len(got.Funcs); n != 2 {
		t.Errorf("%d functions stay", n)
	}
	wantApart(t, got, m)
}

// wantApart: no list of what was made shares memory with another one of it, nor with one of m.
func wantApart(t *testing.T, got, m api.Module) {
	t.Helper()
	own := memory(got)
	all := append(own, memory(m)...)
	for i := range own {
		for j := i + 1; j < len(all); j++ {
			if all[i][0] <= all[j][1] && all[j][0] <= all[i][1] {
				t.Errorf("the list %d of what was made shares memory with the list %d", i, j)
			}
		}
	}
}

// memory answers the first and the last address of each list that has room.
func memory(m api.Module) [][2]uintptr {
	var all [][2]uintptr
	eachList(reflect.ValueOf(m), func(v reflect.Value) {
		if v.Cap() > 0 {
			all = append(all, [2]uintptr{v.Pointer(), v.Pointer() + uintptr(v.Cap())*v.Type().Elem().Size() - 1})
		}
	})
	return all
}

func TestWhatWasMadeIsNewMemory(t *testing.T) {
	for _, m := range []api.Module{moduleOf(t, rich), moduleOf(t, kept), moduleOf(t, several), funcsOf(upTo(3), [][]int{{2}, nil, nil})} {
		wantApart(t, made(t, "new memory", m), m)
	}
}

func TestWhatWasMadeMayBeChanged(t *testing.T) {
	for _, text := range []string{rich, kept, several} {
		m := moduleOf(t, text)
		want := told(moduleOf(t, text))
		one := made(t, "one", m)
		two, now := made(t, "two", m), told(one)
		spoil(one)
		if told(m) != want || told(two) != now {
			t.Errorf("behind a change of what was made: %v, %v, want %s, %s", m, two, want, now)
		}
		if three := made(t, "three", m); told(three) != now {
			t.Errorf("made behind that: %v, want %s", three, now)
		}
	}
}

func TestWhatIsHandedInMayBeChangedBehindMake(t *testing.T) {
	for _, text := range []string{rich, kept, several} {
		m := moduleOf(t, text)
		got := made(t, "changed behind", m)
		want := told(got)
		spoil(m)
		if told(got) != want {
			t.Errorf("behind a change of what was handed in: %v, want %s", got, want)
		}
		wantAll(t, "changed behind", got)
	}
}

// roomy puts every list of a module into memory that goes on behind its length, with something in it, and answers all of that memory.
func roomy(m *api.Module) []reflect.Value {
	var all []reflect.Value
	eachList(reflect.ValueOf(m).Elem(), func(v reflect.Value) {
		whole := reflect.MakeSlice(v.Type(), v.Len()+2, v.Len()+2)
		reflect.Copy(whole, v)
		for i := v.Len(); i < whole.Len(); i++ {
			if v.Len() > 0 {
				whole.Index(i).Set(v.Index(0))
			} else {
				spoilNumbers(whole.Index(i))
			}
		}
		v.Set(whole.Slice(0, v.Len()))
		all = append(all, whole)
	})
	return all
}

func toldMemory(all []reflect.Value) string {
	text := ""
	for _, v := range all {
		text += fmt.Sprint(v.Interface())
	}
	return text
}

func TestWhatLiesBehindAListsLengthIsNeitherReadNorWritten(t *testing.T) {
	for _, x := range []struct{ from, want api.Module }{
		{moduleOf(t, rich), moduleOf(t, kept)},
		{moduleOf(t, several), moduleOf(t, several)},
		{funcsOf(upTo(4), [][]int{{2}, nil, nil, nil}), funcsOf([]int{0, 2}, [][]int{{1}, nil})},
		{greatest(), greatest()},
	} {
		whole := roomy(&x.from)
		ahead := toldMemory(whole)
		wantMade(t, "with more behind", x.from, x.want)
		if now := toldMemory(whole); now != ahead {
			t.Errorf("handed in %s, now %s", ahead, now)
		}
	}
}

func TestNoListAndAnEmptyOne(t *testing.T) {
	for _, text := range []string{rich, several, "func 0 () -> () { block 0 () { jump 2 <> (); } block 0 () { ret (); } block 0 () { ret (); } } func 0 () -> () { block 0 () { ret (); } }"} {
		none, empty := moduleOf(t, text), moduleOf(t, text)
		want := plainMake(none)
		turn := func(m *api.Module, list func(v reflect.Value) reflect.Value) {
			eachList(reflect.ValueOf(m).Elem(), func(v reflect.Value) {
				if v.Len() == 0 {
					v.Set(list(v))
				}
			})
		}
		turn(&none, func(v reflect.Value) reflect.Value { return reflect.Zero(v.Type()) })
		turn(&empty, func(v reflect.Value) reflect.Value { return reflect.MakeSlice(v.Type(), 0, 0) })
		wantMade(t, "no lists", none, want)
		wantMade(t, "empty lists", empty, want)
		if !code.Same(made(t, "no lists", none), made(t, "empty lists", empty)) {
			t.Errorf("no list and an empty one are not the same")
		}
	}
}
