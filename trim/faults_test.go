package trim

import (
	"fmt"
	"math"
	"slices"
	"strings"
	"testing"

	"copyhold/api"
	"copyhold/code"
	"copyhold/parse"
	"copyhold/verify"
)

// P17.1: verify.Check's fault

// wantFault: nothing is made, and that is told, which verify.Check tells.
func wantFault(t *testing.T, what string, m api.Module, kind, at int) {
	t.Helper()
	want := api.Fault{Code: kind, At: at}
	if told := verify.Check(m); told != want || told.Code == 0 {
		t.Errorf("%s: verify.Check = %v, want %v", what, told, want)
	}
	ahead := fmt.Sprintf("%#v", m)
	for range 2 {
		if got, fault := Make(m); fault != want || len(got.Funcs) > 0 {
			t.Errorf("%s: Make = %v, %v, want %v", what, got, fault, want)
		}
	}
	if now := fmt.Sprintf("%#v", m); now != ahead {
		t.Errorf("%s: the module was changed: %s, want %s", what, now, ahead)
	}
}

func TestNoModule(t *testing.T) {
	wantFault(t, "none", api.Module{}, api.ErrMany, -1)
	wantFault(t, "an empty list", api.Module{Funcs: []api.Func{}}, api.ErrMany, -1)
	wantFault(t, "a function without blocks", api.Module{Funcs: []api.Func{{}}}, api.ErrMany, 9999)
	wantFault(t, "too many functions", funcsOf(upTo(api.MaxFuncs+1), make([][]int, api.MaxFuncs+1)), api.ErrMany, -1)
}

// The places of faults are blocks of this module: the first two are come to, the others are not; the function 1 is called, the function 2 is not.
func places() api.Module {
	f := func(first int) api.Func {
		return blocksOf([]int{first, first + 1, first + 2}, [][]int{{1}, nil, {1}})
	}
	m := api.Module{Funcs: []api.Func{f(0), f(10), f(20)}}
	m.Funcs[0].Blocks[0].Code = append(m.Funcs[0].Blocks[0].Code, api.Ins{Op: api.ICall, K: 1})
	m.Funcs[1].Blocks[2].Code = append(m.Funcs[1].Blocks[2].Code, api.Ins{Op: api.ICall, K: 2})
	return m
}

func TestThePlacesOfTheseTests(t *testing.T) {
	want := places()
	want.Funcs = want.Funcs[:2]
	for f := range want.Funcs {
		want.Funcs[f].Blocks = want.Funcs[f].Blocks[:2]
	}
	wantMade(t, "the places", places(), want)
}

// changedBlock is that module with the block b of the function f changed.
func changedBlock(f, b int, change func(b *api.Block)) api.Module {
	m := places()
	change(&m.Funcs[f].Blocks[b])
	return m
}

// eachPlace goes through the blocks, whether they are come to or not.
func eachPlace(visit func(f, b int)) {
	for f := range 3 {
		for b := range 3 {
			visit(f, b)
		}
	}
}

func TestModulesOfNoRightForm(t *testing.T) {
	eachPlace(func(f, b int) {
		at := f*10000 + b*100
		what := func(thing string) string { return fmt.Sprint(thing, " at the block ", b, " of the function ", f) }
		block := func(thing string, kind int, change func(b *api.Block)) {
			wantFault(t, what(thing), changedBlock(f, b, change), kind, at+90)
		}
		block("regions", api.ErrRange, func(b *api.Block) { b.Regs = -1 })
		block("too many regions", api.ErrRange, func(b *api.Block) { b.Regs = api.MaxRegions + 1 })
		block("a type", api.ErrKind, func(b *api.Block) { b.Params = []api.Type{{}} })
		block("a type over no region", api.ErrRange, func(b *api.Block) { b.Params = []api.Type{{Kind: api.TArray}} })
		block("too many values", api.ErrMany, func(b *api.Block) { b.Params = make([]api.Type, api.MaxParams+1) })
		block("too many instructions", api.ErrMany, func(b *api.Block) { b.Code = make([]api.Ins, api.MaxCode+1) })
		for i, x := range []struct {
			ins  api.Ins
			kind int
		}{
			{api.Ins{}, api.ErrKind}, {api.Ins{Op: 15}, api.ErrKind}, {api.Ins{Op: api.INum, A: 1}, api.ErrForm},
			{api.Ins{Op: api.IBin, K: 10}, api.ErrRange}, {api.Ins{Op: api.IGet, K: 8}, api.ErrRange},
			{api.Ins{Op: api.ICall, K: 3}, api.ErrRange}, {api.Ins{Op: api.ICall, K: -1}, api.ErrRange}, {api.Ins{Op: api.ICall, K: math.MaxInt}, api.ErrRange},
			{api.Ins{Op: api.ITuple, Args: make([]int, 9)}, api.ErrMany},
		} {
			m := changedBlock(f, b, func(b *api.Block) { b.Code[1] = x.ins })
			wantFault(t, what(fmt.Sprint("the instruction ", i)), m, x.kind, at+1)
		}
		for i, x := range []struct {
			end  api.End
			kind int
		}{
			{api.End{}, api.ErrKind}, {api.End{Op: 4}, api.ErrKind}, {api.End{Op: api.ERet, A: 1}, api.ErrForm}, {api.End{Op: api.ERet, Yes: api.To{Block: 1}}, api.ErrForm},
			{api.End{Op: api.EJump, No: api.To{Block: 1}}, api.ErrForm}, {api.End{Op: api.EJump, Yes: api.To{Block: 3}}, api.ErrRange},
			{api.End{Op: api.EJump, Yes: api.To{Block: -1}}, api.ErrRange}, {api.End{Op: api.EIf, No: api.To{Block: 3}}, api.ErrRange},
			{api.End{Op: api.EIf, Yes: api.To{Block: math.MinInt}}, api.ErrRange}, {api.End{Op: api.ERet, Args: make([]int, 9)}, api.ErrMany},
		} {
			m := changedBlock(f, b, func(b *api.Block) { b.End = x.end })
			wantFault(t, what(fmt.Sprint("the end ", i)), m, x.kind, at+91)
		}
	})
}

func TestFunctionsOfNoRightForm(t *testing.T) {
	for f := range 3 {
		for i, x := range []struct {
			kind   int
			change func(f *api.Func)
		}{
			{api.ErrRange, func(f *api.Func) { f.Regs = api.MaxRegs + 1 }},
			{api.ErrMany, func(f *api.Func) { f.Params = make([]api.Type, api.MaxParams+1) }},
			{api.ErrKind, func(f *api.Func) { f.Params = make([]api.Type, 1) }},
			{api.ErrForm, func(f *api.Func) { f.Results = []api.Type{{Kind: api.TInt, R: 1}} }},
			{api.ErrMany, func(f *api.Func) { f.Blocks = nil }},
			{api.ErrMany, func(f *api.Func) { f.Blocks = slices.Repeat(f.Blocks, 5) }},
		} {
			m := places()
			x.change(&m.Funcs[f])
			wantFault(t, fmt.Sprint("the function ", f, ", ", i), m, x.kind, f*10000+9999)
		}
	}
	m := places()
	m.Funcs[0].Results = []api.Type{{Kind: api.THandle}}
	wantFault(t, "the first function", m, api.ErrRange, 9999)
	m = places()
	m.Funcs[0].Regs, m.Funcs[0].Blocks[0].Regs = 1, 1
	wantFault(t, "regions of the first function", m, api.ErrMain, 9999)
}

// slots are the same places in a text: %0 to %8 stand for what is in a block.
const slots = `
func 0 () -> () { block 0 () { call 1 <> (); %0 } block 0 () { %1 } block 0 () { %2 } }
func 0 () -> () { block 0 () { %3 } block 0 () { %4 } block 0 () { call 2 <> (); %5 } }
func 0 () -> () { block 0 () { %6 } block 0 () { %7 } block 0 () { %8 } }
`

// filled has each slot filled by what is right but the one at f, b.
func filled(f, b int, body string) string {
	text := slots
	for i := range 9 {
		right := "ret ();"
		if i%3 == 0 {
			right = "jump 1 <> ();"
		}
		if i == 3*f+b {
			right = body
		}
		text = strings.Replace(text, fmt.Sprint("%", i), right, 1)
	}
	return text
}

func TestModulesThatMayNotBeRun(t *testing.T) {
	eachPlace(func(f, b int) {
		ahead := 0
		if b == 0 && f == 0 || b == 2 && f == 1 {
			ahead = 1
		}
		for _, x := range []struct {
			body     string
			kind, at int
		}{
			{"out 9; ret ();", api.ErrRange, 0},
			{"num 1; free 0; ret ();", api.ErrType, 1},
			{"new; free 0; free 0; ret ();", api.ErrHeld, 2},
			{"new; num 1; tuple 0 (1); free 0; get 2 0; ret ();", api.ErrHeld, 4},
			{"new; num 1; array 0 1; free 0; store 2 1 1; ret ();", api.ErrHeld, 4},
			{"num 1; call 1 <> (0); ret ();", api.ErrMany, 1},
			{"new; ret ();", api.ErrLeft, 91},
			{"num 1; ret (0);", api.ErrMany, 91},
			{"new; jump 1 <> ();", api.ErrLeft, 91},
			{"new; jump 1 <0> ();", api.ErrMany, 91},
			{"num 1; jump 2 <> (0);", api.ErrMany, 91},
			{"if 0 to 1 <> () else 2 <> ();", api.ErrRange, 91},
			{"num 1; new; if 0 to 1 <> () else 2 <> ();", api.ErrLeft, 91},
			{"num 1; if 0 to 1 <> () else 2 <> (0);", api.ErrMany, 91},
		} {
			at := f*10000 + b*100 + x.at
			if x.at < 90 {
				at += ahead
			}
			text := filled(f, b, x.body)
			wantFault(t, text, moduleOf(t, text), x.kind, at)
		}
	})
}

func TestTheFirstFaultIsTold(t *testing.T) {
	// one at a place that is never come to stands ahead of one that is come to
	wrong := func(m api.Module, f, b int) {
		m.Funcs[f].Blocks[b].Code[1].A = 9
	}
	m := places()
	wrong(m, 1, 1)
	wantFault(t, "come to", m, api.ErrRange, 10101)
	wrong(m, 0, 2)
	wantFault(t, "never come to, ahead of that", m, api.ErrRange, 201)
	m = places()
	wrong(m, 2, 0)
	wrong(m, 1, 2)
	wantFault(t, "never come to, both", m, api.ErrRange, 10201)
	m = places()
	wrong(m, 0, 0)
	m.Funcs[2].Blocks[2].End.Op = 9
	wantFault(t, "a form, never come to, behind that", m, api.ErrKind, 20291)
}

func TestTheExamplesOfTheDocument(t *testing.T) {
	wantFault(t, "held", moduleOf(t, "func 0 () -> () { block 0 () { new; num 1; tuple 0 (1); free 0; get 2 0; ret (); } }"), api.ErrHeld, 4)
	wantFault(t, "left", moduleOf(t, "func 0 () -> () { block 0 () { new; ret (); } }"), api.ErrLeft, 91)
	wantText(t,
		"func 0 () -> () { block 0 () { new; jump 2 <0> (0); } block 0 () { ret (); } block 1 (handle 0) { new; free 0; jump 2 <1> (1); } }",
		"func 0 () -> () { block 0 () { new; jump 1 <0> (0); } block 1 (handle 0) { new; free 0; jump 1 <1> (1); } }")
}

func TestMadeBehindAFaultIsTheSame(t *testing.T) {
	m := moduleOf(t, rich)
	want := told(made(t, "ahead", m))
	wantFault(t, "a fault between", changedBlock(2, 2, func(b *api.Block) { b.End.Op = 0 }), api.ErrKind, 20291)
	if got := told(made(t, "behind", m)); got != want {
		t.Errorf("behind a fault: %s, want %s", got, want)
	}
}

func TestDeepTypes(t *testing.T) {
	inner := api.Type{Kind: api.TInt}
	for n := 1; n < 1<<12; n++ {
		inner = api.Type{Kind: api.TTuple, L: []api.Type{inner}}
		if n == api.MaxNested {
			m := places()
			m.Funcs[2].Regs, m.Funcs[2].Params = 1, []api.Type{inner}
			m.Funcs[1].Blocks[2].Code = m.Funcs[1].Blocks[2].Code[:2]
			for b := range m.Funcs[2].Blocks {
				m.Funcs[2].Blocks[b] = api.Block{Regs: 1, Params: []api.Type{inner}, End: api.End{Op: api.ERet}}
			}
			wantAsPlain(t, "as deep as can be", m)
		}
	}
	wantFault(t, "too deep", changedBlock(2, 2, func(b *api.Block) { b.Regs, b.Params = 1, []api.Type{inner} }), api.ErrDeep, 20290)
}

func TestAFaultOfATextIsNoneOfMake(t *testing.T) {
	// what can't be read is no module, and nothing is made of it
	m, fault := parse.Parse("func 0 () -> () { block 0 () { jump 2 <> (); } }")
	if fault.Code == 0 {
		t.Fatalf("a module: %v", m)
	}
	wantFault(t, "not read", m, api.ErrMany, -1)
	if got := code.Check(m); got.Code != api.ErrMany {
		t.Errorf("code.Check = %v", got)
	}
}
