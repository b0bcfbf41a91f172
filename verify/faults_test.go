package verify

import (
	"fmt"
	"slices"
	"testing"

	"copyhold/api"
	"copyhold/code"
)

// The module of these tests has the functions 0 to 6, of one region of their caller's each (the function 0: of none), and the function 7, which is called. All is right in it. What is looked at stands in a block that begins with four regions and the values 0 int, 1 handle 0, 2 handle 1, 3 handle 3, 4 array 1, 5 tuple 1 (int, array 2), 6 array 3, 7 tuple 3 (int); it may free the region 3 first, and go on to the block 10 with three of them, or to the block 11 with four.
const functions = 7

func intType() api.Type       { return api.Type{Kind: api.TInt} }
func handleOf(r int) api.Type { return api.Type{Kind: api.THandle, R: r} }
func arrayAt(r int) api.Type  { return api.Type{Kind: api.TArray, R: r} }
func tupleAt(r int, l ...api.Type) api.Type {
	return api.Type{Kind: api.TTuple, R: r, L: l}
}

func lookedAt() []api.Type {
	return []api.Type{intType(), handleOf(0), handleOf(1), handleOf(3), arrayAt(1), tupleAt(1, intType(), arrayAt(2)), arrayAt(3), tupleAt(3, intType())}
}

func loop(b, n int) api.Block { return api.Block{Regs: n, End: jump(to(b, upTo(n)))} }

func standing() api.Module {
	var m api.Module
	for f := range functions {
		x := api.Func{Regs: 1, Params: []api.Type{handleOf(0)}, Results: []api.Type{intType(), handleOf(0)}}
		begin := api.Block{Regs: 1, Params: x.Params, Code: []api.Ins{num(7)}, End: back(1, 0)}
		if f == 0 {
			x = api.Func{Results: []api.Type{intType()}}
			begin = api.Block{Code: []api.Ins{num(7)}, End: back(0)}
		}
		x.Blocks = []api.Block{begin}
		for b := 1; b < 10; b++ {
			x.Blocks = append(x.Blocks, loop(b, 4))
		}
		x.Blocks = append(x.Blocks, loop(10, 3), loop(11, 4))
		m.Funcs = append(m.Funcs, x)
	}
	m.Funcs = append(m.Funcs, api.Func{
		Regs: 3, Params: []api.Type{handleOf(1), arrayAt(0), intType()}, Results: []api.Type{arrayAt(2), intType()},
		Blocks: []api.Block{
			{Regs: 3, Params: []api.Type{handleOf(1), arrayAt(0), intType()}, End: jump(to(0, upTo(3), 0, 1, 2))},
		},
	})
	return code.Own(m)
}

// place is a place in that module: an instruction, or, at 91, an end.
type place struct{ f, b, i int }

func (p place) at() int { return p.f*10000 + p.b*100 + p.i }

// with is the module with the code and the end at the block of a place.
func with(m api.Module, p place, list []api.Ins, end api.End) api.Module {
	m = code.Own(m)
	m.Funcs[p.f].Blocks[p.b] = api.Block{Regs: 4, Params: lookedAt(), Code: list, End: end}
	return m
}

// wrong is an instruction, or an end, and what is told of it behind others that are right.
type wrong struct {
	what  string
	ahead []api.Ins
	x     api.Ins
	end   api.End
	told  int
}

func (w wrong) frees() bool {
	return slices.ContainsFunc(w.ahead, func(x api.Ins) bool { return x.Op == api.IFree })
}

// rightEnd hands on what is held behind the instructions that are right.
func (w wrong) rightEnd() api.End {
	if w.frees() {
		return jump(to(10, upTo(3)))
	}
	return jump(to(11, upTo(4)))
}

// laid puts the wrong instruction at the place p, with right ones ahead of it and behind it.
func (w wrong) laid(m api.Module, p place) (wrong, right api.Module) {
	list := slices.Clone(w.ahead)
	for len(list) < p.i {
		list = append(list, num(1))
	}
	right = with(m, p, list, w.rightEnd())
	list = append(list, w.x)
	for len(list) < min(p.i+4, api.MaxCode) {
		list = append(list, out(0))
	}
	return with(m, p, list, w.rightEnd()), right
}

// laidEnd puts the wrong end behind n instructions of the block of p.
func (w wrong) laidEnd(m api.Module, p place, n int) (wrong, right api.Module) {
	list := slices.Clone(w.ahead)
	for len(list) < n {
		list = append(list, out(0))
	}
	return with(m, p, list, w.end), with(m, p, list, w.rightEnd())
}

func (w wrong) canStand(p place) bool {
	return p.i >= len(w.ahead) && (p.f > 0 || w.told != api.ErrKept)
}

// gone frees the region 3.
func gone() []api.Ins { return []api.Ins{free(3)} }

func deepest() []api.Ins { return []api.Ins{tuple(2, 5), tuple(2, 8), tuple(2, 9)} }

// wrongs has each code of each kind of instruction that the chapter of the judge names, but for those of too many values and regions.
func wrongs() []wrong {
	of := func(what string, x api.Ins, told int) wrong { return wrong{what: what, x: x, told: told} }
	behind := func(ahead []api.Ins, w wrong) wrong { w.ahead = ahead; return w }
	return []wrong{
		of("bin", bin(80, 0), api.ErrRange), of("bin", bin(0, -1), api.ErrRange), of("bin", bin(1, 0), api.ErrType), of("bin", bin(0, 4), api.ErrType),
		of("free", free(80), api.ErrRange), of("free", free(4), api.ErrType), of("free", free(1), api.ErrKept), behind(gone(), of("free", free(3), api.ErrHeld)),
		of("tuple", tuple(80), api.ErrRange), of("tuple", tuple(5), api.ErrType), of("tuple", tuple(2, 0, 80), api.ErrRange),
		behind(gone(), of("tuple", tuple(3, 0), api.ErrHeld)), behind(deepest(), of("tuple", tuple(2, 0, 10), api.ErrDeep)),
		of("get", get(80, 0), api.ErrRange), of("get", get(4, 0), api.ErrType), of("get", get(5, 2), api.ErrType), behind(gone(), of("get", get(7, 0), api.ErrHeld)),
		of("set", set(80, 0, 0), api.ErrRange), of("set", set(4, 0, 0), api.ErrType), of("set", set(5, 2, 0), api.ErrType), of("set", set(5, 0, 80), api.ErrRange),
		of("set", set(5, 0, 4), api.ErrType), of("set", set(5, 1, 4), api.ErrType), behind(gone(), of("set", set(7, 0, 0), api.ErrHeld)),
		of("array", array(80, 0), api.ErrRange), of("array", array(4, 0), api.ErrType), of("array", array(2, 80), api.ErrRange), of("array", array(2, 2), api.ErrType),
		behind(gone(), of("array", array(3, 0), api.ErrHeld)),
		of("load", load(80, 0), api.ErrRange), of("load", load(5, 0), api.ErrType), of("load", load(4, 80), api.ErrRange), of("load", load(4, 4), api.ErrType),
		behind(gone(), of("load", load(6, 0), api.ErrHeld)),
		of("store", store(80, 0, 0), api.ErrRange), of("store", store(2, 0, 0), api.ErrType), of("store", store(4, 80, 0), api.ErrRange), of("store", store(4, 1, 0), api.ErrType),
		of("store", store(4, 0, 80), api.ErrRange), of("store", store(4, 0, 4), api.ErrType), behind(gone(), of("store", store(6, 0, 0), api.ErrHeld)),
		of("len", length(80), api.ErrRange), of("len", length(5), api.ErrType), behind(gone(), of("len", length(6), api.ErrHeld)),
		of("out", out(80), api.ErrRange), of("out", out(1), api.ErrType),
		of("call", call(7, regs(1, 0), 1, 4, 0), api.ErrMany), of("call", call(7, regs(1, 0, 4), 1, 4, 0), api.ErrHeld), of("call", call(7, regs(1, 0, 1), 1, 4, 0), api.ErrTwice),
		of("call", call(7, regs(1, 0, 2), 1, 4), api.ErrMany), of("call", call(7, regs(1, 0, 2), 1, 4, 80), api.ErrRange), of("call", call(7, regs(1, 0, 2), 2, 4, 0), api.ErrType),
		of("call", call(7, regs(2, 0, 1), 1, 4, 0), api.ErrType), behind(gone(), of("call", call(7, regs(1, 0, 3), 1, 4, 0), api.ErrHeld)),
	}
}

// wrongEnds likewise has those of the ends, of a function with a region of its caller's.
func wrongEnds() []wrong {
	of := func(what string, end api.End, told int) wrong { return wrong{what: what, end: end, told: told} }
	behind := func(w wrong) wrong { w.ahead = gone(); return w }
	tos := []wrong{
		of("many", jump(to(11, upTo(3))), api.ErrMany), of("kept", jump(to(11, regs(1, 0, 2, 3))), api.ErrKept), of("no region", jump(to(11, regs(0, 1, 2, 4))), api.ErrHeld),
		of("twice", jump(to(11, regs(0, 1, 2, 2))), api.ErrTwice), of("left", jump(to(10, regs(0, 1, 2))), api.ErrLeft), behind(of("freed", jump(to(11, upTo(4))), api.ErrHeld)),
		of("an Arg for none", jump(to(11, upTo(4), 0)), api.ErrMany), of("too few Args", jump(to(9, upTo(4), 0)), api.ErrMany),
		of("no value", jump(to(9, upTo(4), 80, 1, 2, 3, 4, 5, 6, 7)), api.ErrRange), of("another type", jump(to(9, upTo(4), 1, 1, 2, 3, 4, 5, 6, 7)), api.ErrType),
		of("other names", jump(to(9, regs(0, 2, 1, 3), 0, 1, 2, 3, 4, 5, 6, 7)), api.ErrType),
	}
	list := slices.Clone(tos)
	for _, w := range tos {
		yes, right := w.end.Yes, w.rightEnd().Yes
		w.end = fork(0, yes, right)
		list = append(list, w)
		w.end = fork(0, right, yes)
		list = append(list, w)
	}
	return append(list,
		of("if", fork(80, to(11, upTo(4)), to(11, upTo(4))), api.ErrRange), of("if", fork(1, to(11, upTo(4)), to(11, upTo(4))), api.ErrType),
		of("ret", back(0), api.ErrMany), of("ret", back(80, 1), api.ErrRange), of("ret", back(1, 1), api.ErrType), of("ret", back(0, 2), api.ErrType),
		of("ret", back(0, 1), api.ErrLeft), behind(of("ret", back(0, 1), api.ErrLeft)),
	)
}

// standingFor has the block 9 ready for those ends that lead there.
func standingFor() api.Module {
	m := standing()
	for f := range functions {
		m.Funcs[f].Blocks[9] = api.Block{Regs: 4, Params: lookedAt(), End: jump(to(11, upTo(4)))}
	}
	return m
}

func told(t *testing.T, what string, m api.Module, kind, at int) {
	t.Helper()
	if got, want := Check(m), (api.Fault{Code: kind, At: at}); got != want {
		t.Errorf("%s: Check = %v, want %v", what, got, want)
	}
}

// P12.1: each code at its place

func TestTheModuleOfTheseTestsMayBeRun(t *testing.T) {
	wantCheck(t, "standing", standing(), 0, 0)
	wantCheck(t, "standing for ends", standingFor(), 0, 0)
}

func TestEachCodeOfAnInstructionIsToldAtItsPlace(t *testing.T) {
	m := standing()
	for _, w := range wrongs() {
		for _, p := range []place{{0, 1, 0}, {0, 7, 3}, {1, 1, 1}, {3, 5, 20}, {3, 9, 0}, {6, 9, api.MaxCode - 1}, {6, 1, 0}} {
			if !w.canStand(p) {
				continue
			}
			what := fmt.Sprintf("%s %+v at %v", w.what, w.x, p)
			bad, right := w.laid(m, p)
			told(t, what+", left out", right, 0, 0)
			told(t, what, bad, w.told, p.at())
		}
	}
}

func TestEachCodeOfAnEndIsToldAtItsPlace(t *testing.T) {
	m := standingFor()
	for _, w := range wrongEnds() {
		for _, n := range []int{1, 2, api.MaxCode} {
			for _, p := range []place{{1, 1, 91}, {3, 5, 91}, {6, 8, 91}} {
				what := fmt.Sprintf("%s %+v at %v", w.what, w.end, p)
				bad, right := w.laidEnd(m, p, n)
				told(t, what+", a right one instead", right, 0, 0)
				told(t, what, bad, w.told, p.at())
			}
		}
	}
}

func TestEachCodeIsAmongThem(t *testing.T) {
	var kinds []int
	for _, w := range slices.Concat(wrongs(), wrongEnds()) {
		kinds = append(kinds, w.told)
	}
	for _, want := range []int{api.ErrRange, api.ErrMany, api.ErrType, api.ErrHeld, api.ErrKept, api.ErrLeft, api.ErrTwice, api.ErrDeep} {
		if !slices.Contains(kinds, want) {
			t.Errorf("no test of the code %d", want)
		}
	}
}

// The block 0, where a function begins, and the smallest faults there.
func TestFaultsWhereAFunctionBegins(t *testing.T) {
	for f := range functions {
		m := standing()
		block := &m.Funcs[f].Blocks[0]
		n := len(block.Params)
		block.Code = []api.Ins{out(n), num(7)}
		wantCheck(t, "the first instruction", m, api.ErrRange, f*10000)
		block.Code = []api.Ins{num(7), out(n + 1), num(7)}
		wantCheck(t, "the second", m, api.ErrRange, f*10000+1)
		block.Code = []api.Ins{num(7), num(7), out(n + 2)}
		wantCheck(t, "the last", m, api.ErrRange, f*10000+2)
		block.Code = []api.Ins{num(7), fresh()}
		wantCheck(t, "the end", m, api.ErrLeft, f*10000+91)
		block.Code = nil
		wantCheck(t, "the end, without instructions", m, api.ErrRange, f*10000+91)
	}
}

// P12.1: the first one

// firsts are wrongs of codes that differ, so that it is seen which one is told.
func firsts() (early, late wrong) {
	return wrong{x: call(7, regs(1, 0, 1), 1, 4, 0), told: api.ErrTwice}, wrong{x: out(1), told: api.ErrType}
}

func TestTheFirstOfTwoInBlocksAndFunctions(t *testing.T) {
	places := []place{{0, 1, 2}, {0, 2, 0}, {0, 9, 5}, {1, 1, 1}, {1, 8, 0}, {5, 3, 0}, {6, 2, 9}, {6, 9, 0}}
	a, b := firsts()
	for i, p := range places {
		for _, q := range places[i+1:] {
			for _, pair := range [][2]wrong{{a, b}, {b, a}} {
				m, _ := pair[0].laid(standing(), p)
				m, _ = pair[1].laid(m, q)
				told(t, fmt.Sprint("at ", p, " and ", q), m, pair[0].told, p.at())
			}
		}
	}
}

func TestTheFirstOfTwoInABlock(t *testing.T) {
	a, b := firsts()
	for _, pair := range [][2]wrong{{a, b}, {b, a}, {a, a}} {
		for i := range 4 {
			for k := i + 1; k < 5; k++ {
				list := slices.Repeat([]api.Ins{num(1)}, 5)
				list[i], list[k] = pair[0].x, pair[1].x
				p := place{2, 4, i}
				told(t, fmt.Sprint("at ", i, " and ", k), with(standing(), p, list, jump(to(11, upTo(4)))), pair[0].told, p.at())
			}
		}
	}
}

func TestAnInstructionIsToldAheadOfTheEnd(t *testing.T) {
	m := standingFor()
	a, _ := firsts()
	for _, w := range wrongEnds() {
		for i := range 3 {
			list := slices.Insert(slices.Repeat([]api.Ins{num(1)}, 2), i, a.x)
			p := place{2, 4, i}
			told(t, fmt.Sprint("ahead of the end ", w.what), with(m, p, slices.Concat(list, w.ahead), w.end), a.told, p.at())
		}
	}
}

func TestAnEndIsToldAheadOfTheNextBlock(t *testing.T) {
	a, _ := firsts()
	for _, p := range []place{{1, 1, 91}, {1, 7, 91}} {
		for _, q := range []place{{1, 8, 0}, {2, 1, 0}, {6, 9, 3}} {
			m, _ := a.laid(standing(), q)
			m = with(m, p, nil, back(0, 1))
			told(t, fmt.Sprint("the end at ", p, ", and ", q), m, api.ErrLeft, p.at())
			m.Funcs[p.f].Blocks[p.b].End = jump(to(11, upTo(4)))
			told(t, "a right end", m, a.told, q.at())
		}
	}
}

// P12.1: code.Check's fault

// formWrongs are modules that code.Check does not let by, each with its fault; they are made of one that may be run.
func formWrongs() map[api.Fault]func(m *api.Module) {
	at := func(kind, at int) api.Fault { return api.Fault{Code: kind, At: at} }
	return map[api.Fault]func(m *api.Module){
		at(api.ErrMany, -1):    func(m *api.Module) { m.Funcs = append(m.Funcs, m.Funcs[0]) },
		at(api.ErrRange, 9999): func(m *api.Module) { m.Funcs[0].Regs = -1 },
		at(api.ErrMain, 9999):  func(m *api.Module) { m.Funcs[0].Params = []api.Type{intType()} },
		at(api.ErrMany, 79999): func(m *api.Module) { m.Funcs[7].Params = make([]api.Type, 9) },
		at(api.ErrKind, 79999): func(m *api.Module) { m.Funcs[7].Results[1].Kind = 5 },
		at(api.ErrForm, 79999): func(m *api.Module) { m.Funcs[7].Results[1].R = 1 },
		at(api.ErrDeep, 79999): func(m *api.Module) {
			m.Funcs[7].Results[1] = tupleAt(0, tupleAt(0, tupleAt(0, tupleAt(0, tupleAt(0, intType())))))
		},
		at(api.ErrRange, 79999): func(m *api.Module) { m.Funcs[7].Results[1] = arrayAt(3) },
		at(api.ErrRange, 70090): func(m *api.Module) { m.Funcs[7].Blocks[0].Regs = 17 },
		at(api.ErrType, 70090):  func(m *api.Module) { m.Funcs[7].Blocks[0].Regs = 4 },
		at(api.ErrKind, 70000):  func(m *api.Module) { m.Funcs[7].Blocks[0].Code = []api.Ins{{}} },
		at(api.ErrForm, 70000):  func(m *api.Module) { m.Funcs[7].Blocks[0].Code = []api.Ins{{Op: api.INum, A: 1}} },
		at(api.ErrRange, 70000): func(m *api.Module) { m.Funcs[7].Blocks[0].Code = []api.Ins{call(8, nil)} },
		at(api.ErrMany, 70000):  func(m *api.Module) { m.Funcs[7].Blocks[0].Code = []api.Ins{tuple(0, upTo(9)...)} },
		at(api.ErrKind, 70091):  func(m *api.Module) { m.Funcs[7].Blocks[0].End = api.End{} },
		at(api.ErrForm, 70091):  func(m *api.Module) { m.Funcs[7].Blocks[0].End.A = 1 },
		at(api.ErrRange, 70091): func(m *api.Module) { m.Funcs[7].Blocks[0].End.Yes.Block = 1 },
		at(api.ErrMany, 70091):  func(m *api.Module) { m.Funcs[7].Blocks[0].End.Yes.Args = upTo(9) },
	}
}

func TestTheFaultOfTheForm(t *testing.T) {
	for fault, change := range formWrongs() {
		m := standing()
		change(&m)
		if got := code.Check(m); got != fault {
			t.Errorf("code.Check = %v, want %v", got, fault)
		}
		wantCheck(t, "the form", m, fault.Code, fault.At)
	}
	wantCheck(t, "no functions", api.Module{}, api.ErrMany, -1)
	wantCheck(t, "no blocks", api.Module{Funcs: make([]api.Func, 1)}, api.ErrMany, 9999)
	wantCheck(t, "no end", api.Module{Funcs: []api.Func{{Blocks: make([]api.Block, 1)}}}, api.ErrKind, 91)
}

// Far behind, and still ahead of what a judge would say of the beginning.
func TestTheFaultOfTheFormIsToldFirst(t *testing.T) {
	for fault, change := range formWrongs() {
		for _, w := range wrongs() {
			m, _ := w.laid(standing(), place{1, 1, max(2, len(w.ahead))})
			change(&m)
			told(t, w.what, m, fault.Code, fault.At)
		}
		m := standing()
		m.Funcs[0].Blocks[0].Code = []api.Ins{out(0)}
		change(&m)
		told(t, "at the very beginning", m, fault.Code, fault.At)
	}
}

// P12.1: each block by itself

func TestABlockThatNoWayLeadsTo(t *testing.T) {
	text := "func 0 () -> () { block 0 () { ret (); } block 0 () { %s ret (); } } func 0 () -> () { block 0 () { ret (); } block 0 () { %s ret (); } }"
	wantText(t, fmt.Sprintf(text, "", ""), 0, 0)
	wantText(t, fmt.Sprintf(text, "new;", ""), api.ErrLeft, 191)
	wantText(t, fmt.Sprintf(text, "out 0;", ""), api.ErrRange, 100)
	wantText(t, fmt.Sprintf(text, "", "num 1; new; out 1;"), api.ErrType, 10102)
	wantText(t, fmt.Sprintf(text, "", "new;"), api.ErrLeft, 10191)
	wantText(t, "func 0 () -> () { block 0 () { jump 0 <> (); } block 3 () { jump 0 <> (); } }", api.ErrLeft, 191)
	wantText(t, "func 0 () -> () { block 0 () { ret (); } block 3 (handle 1) { free 0; jump 1 <0, 1, 2> (0); } }", api.ErrHeld, 191)
}

func TestABlockBeginsWithItsOwnRegionsAndValues(t *testing.T) {
	for _, x := range []struct {
		what, text string
		kind, at   int
	}{
		{"values of the block ahead", "func 0 () -> () { block 0 () { num 1; jump 1 <> (); } block 0 () { out 0; ret (); } }", api.ErrRange, 100},
		{"its own values", "func 0 () -> () { block 0 () { num 1; jump 1 <> (0); } block 0 (int) { out 0; ret (); } }", 0, 0},
		{"a region that was freed ahead", "func 0 () -> () { block 0 () { new; new; free 0; jump 1 <1> (1); } block 1 (handle 0) { free 0; ret (); } }", 0, 0},
		{"a region by its old number", "func 0 () -> () { block 0 () { new; new; free 0; jump 1 <1> (1); } block 1 (handle 0) { jump 1 <1> (0); } }", api.ErrHeld, 191},
		{"regions are counted anew", "func 0 () -> () { block 0 () { new; new; free 0; free 1; jump 1 <> (); } block 0 () { new; free 0; ret (); } }", 0, 0},
		{"a region that the end handed on", "func 0 () -> () { block 0 () { new; jump 1 <0> (0); } block 1 (handle 0) { ret (); } }", api.ErrLeft, 191},
		{"the next function", "func 0 () -> () { block 0 () { new; num 1; free 0; ret (); } } func 0 () -> () { block 0 () { free 0; ret (); } }", api.ErrRange, 10000},
		{"the next function's own regions", "func 0 () -> () { block 0 () { new; free 0; ret (); } } func 1 (handle 0) -> () { block 1 (handle 0) { free 0; ret (); } }", api.ErrKept, 10000},
		{"a block behind one of many regions", "func 0 () -> () { block 0 () { ret (); } block 16 () { jump 1 <0, 1, 2, 3, 4, 5, 6, 7, 8, 9, 10, 11, 12, 13, 14, 15> (); } block 0 () { new; free 0; ret (); } }", 0, 0},
	} {
		m := moduleOf(t, x.text)
		wantCheck(t, x.what, m, x.kind, x.at)
	}
}

// A called function's regions and results count as it is told, whatever stands in its blocks.
func TestACallIsJudgedByWhatTheFunctionTakesAndGives(t *testing.T) {
	text := "func 0 () -> () { block 0 () { new; call 1 <0> (0); out 1; free 0; ret (); } } func 1 (handle 0) -> (int) { block 1 (handle 0) { %s } }"
	wantText(t, fmt.Sprintf(text, "num 1; ret (1);"), 0, 0)
	wantText(t, fmt.Sprintf(text, "ret (0);"), api.ErrType, 10091)
	wantText(t, fmt.Sprintf(text, "call 1 <0> (0); ret (1);"), 0, 0)
	wantText(t, fmt.Sprintf(text, "free 0; num 1; ret (1);"), api.ErrKept, 10000)
	wantText(t, fmt.Sprintf(text, "jump 0 <0> (0);"), 0, 0)
}
