package code

import (
	"fmt"
	"math"
	"strings"
	"testing"

	"copyhold/api"
)

// fieldNames are the chapter's words: which fields an instruction of each kind has.
func fieldNames() map[int]string {
	return map[int]string{
		api.INum: "N", api.IBin: "A B K", api.INew: "", api.IFree: "A", api.ITuple: "A Args", api.IGet: "A K", api.ISet: "A B K",
		api.IArray: "A B", api.ILoad: "A B", api.IStore: "A B C", api.ILen: "A", api.IIn: "", api.IOut: "A", api.ICall: "K Regs Args",
	}
}

func wrongOps(last int) []int {
	return append(wild(), 0, -last, last+1, last+2, 1<<32+last, 1<<8+1)
}

// plain is an instruction of the kind without anything in its fields that need not be there.
func plain(op int) api.Ins {
	x := api.Ins{Op: op}
	if op == api.IBin {
		x.K = api.KAdd
	}
	return x
}

func wantIns(t *testing.T, what string, m api.Module, x api.Ins, want int) {
	t.Helper()
	if got := Ins(m, x); got != want {
		t.Errorf("%s: Ins(%+v) = %d, want %d", what, x, got, want)
	}
}

func wantEnd(t *testing.T, what string, f api.Func, e api.End, want int) {
	t.Helper()
	if got := End(f, e); got != want {
		t.Errorf("%s: End(%+v) = %d, want %d", what, e, got, want)
	}
}

// P5.2

func TestInsOfEachKind(t *testing.T) {
	seen := map[int]bool{}
	for _, x := range eachIns() {
		seen[x.Op] = true
		wantIns(t, "with its fields", large(), x, 0)
		wantIns(t, "with nothing", large(), plain(x.Op), 0)
		x.Regs, x.Args = append([]int{}, x.Regs...), append([]int{}, x.Args...)
		wantIns(t, "with empty lists", large(), x, 0)
	}
	if len(seen) != 14 || len(fieldNames()) != 14 {
		t.Errorf("not of all kinds: %v", seen)
	}
}

func TestInsOfNoKind(t *testing.T) {
	for _, op := range wrongOps(api.ICall) {
		wantIns(t, "alone", large(), api.Ins{Op: op}, api.ErrKind)
		wantIns(t, "with fields", large(), api.Ins{Op: op, A: 1, B: 2, C: 3, K: 4, N: 5, Regs: []int{6}, Args: []int{7}}, api.ErrKind)
		wantIns(t, "with long lists", api.Module{}, api.Ins{Op: op, K: -1, Regs: make([]int, 99), Args: make([]int, 99)}, api.ErrKind)
	}
}

// fillings put something into one field each, by the field's name.
func fillings(n int) map[string]func(x *api.Ins) {
	return map[string]func(x *api.Ins){
		"A":    func(x *api.Ins) { x.A = n },
		"B":    func(x *api.Ins) { x.B = n },
		"C":    func(x *api.Ins) { x.C = n },
		"N":    func(x *api.Ins) { x.N = int64(n) },
		"K":    func(x *api.Ins) { x.K = n },
		"Regs": func(x *api.Ins) { x.Regs = []int{n} },
		"Args": func(x *api.Ins) { x.Args = []int{n} },
	}
}

func TestInsOfFieldsThatItHasOrHasNot(t *testing.T) {
	for op, names := range fieldNames() {
		for _, n := range append(wild(), 1, 2, 7) {
			for name, fill := range fillings(n) {
				x := plain(op)
				fill(&x)
				has := strings.Contains(" "+names+" ", " "+name+" ")
				if !has {
					wantIns(t, "a field that it has not: "+name, large(), x, api.ErrForm)
				} else if name != "K" {
					wantIns(t, "a field that it has: "+name, large(), x, 0)
				}
			}
		}
		for name, fill := range map[string]func(x *api.Ins){
			"Regs": func(x *api.Ins) { x.Regs = []int{0} },
			"Args": func(x *api.Ins) { x.Args = []int{0} },
		} {
			x, want := plain(op), api.ErrForm
			if strings.Contains(names, name) {
				want = 0
			}
			fill(&x)
			wantIns(t, "a list of a nought: "+name, large(), x, want)
		}
	}
}

func TestInsDoesNotAskWhichValuesThereAre(t *testing.T) {
	for _, n := range wild() {
		wantIns(t, "tuple", large(), api.Ins{Op: api.ITuple, A: n, Args: []int{n, n}}, 0)
		wantIns(t, "store", large(), api.Ins{Op: api.IStore, A: n, B: n, C: n}, 0)
		wantIns(t, "set", large(), api.Ins{Op: api.ISet, A: n, B: n}, 0)
		wantIns(t, "bin", large(), api.Ins{Op: api.IBin, A: n, B: n, K: api.KXor}, 0)
		wantIns(t, "call", large(), api.Ins{Op: api.ICall, Regs: []int{n, n}, Args: []int{n, n, n}}, 0)
	}
	for _, n := range []int64{0, 1, -1, math.MinInt64, math.MaxInt64} {
		wantIns(t, "num", api.Module{}, api.Ins{Op: api.INum, N: n}, 0)
	}
}

func TestInsOfKindsOfArithmetic(t *testing.T) {
	for k := api.KAdd; k <= api.KXor; k++ {
		wantIns(t, "a kind", large(), api.Ins{Op: api.IBin, K: k}, 0)
	}
	for _, k := range append(wild(), 0, api.KAdd-1, api.KXor+1, 1<<8+1) {
		wantIns(t, "no kind", large(), api.Ins{Op: api.IBin, K: k}, api.ErrRange)
	}
}

func TestInsOfFieldsOfTuples(t *testing.T) {
	for n := range api.MaxFields + 1 {
		wantIns(t, "not too many", large(), api.Ins{Op: api.ITuple, Args: make([]int, n)}, 0)
	}
	for _, n := range []int{api.MaxFields + 1, api.MaxFields + 2, 256, 1000} {
		wantIns(t, "too many", large(), api.Ins{Op: api.ITuple, Args: make([]int, n)}, api.ErrMany)
	}
	for _, op := range []int{api.IGet, api.ISet} {
		for k := range api.MaxFields {
			wantIns(t, "a field", large(), api.Ins{Op: op, K: k}, 0)
		}
		for _, k := range append(wild(), api.MaxFields, api.MaxFields+1) {
			wantIns(t, "no field", large(), api.Ins{Op: op, K: k}, api.ErrRange)
		}
	}
}

func TestInsOfCalls(t *testing.T) {
	for funcs := range api.MaxFuncs + 3 {
		m := api.Module{Funcs: make([]api.Func, funcs)}
		for k := range funcs {
			wantIns(t, "a function", m, api.Ins{Op: api.ICall, K: k}, 0)
		}
		for _, k := range append(wild(), funcs, funcs+1) {
			wantIns(t, "no function", m, api.Ins{Op: api.ICall, K: k}, api.ErrRange)
			wantIns(t, "no function, and long lists", m, api.Ins{Op: api.ICall, K: k, Regs: make([]int, 7), Args: make([]int, 9)}, api.ErrRange)
		}
	}
	for regs := range api.MaxRegs + 4 {
		for args := range api.MaxParams + 4 {
			want := 0
			if regs > 6 || args > 8 {
				want = api.ErrMany
			}
			wantIns(t, fmt.Sprint(regs, " regions, ", args, " values"), smallest(), api.Ins{Op: api.ICall, Regs: make([]int, regs), Args: make([]int, args)}, want)
		}
	}
}

func TestInsTellsTheFormAheadOfTheBounds(t *testing.T) {
	for what, x := range map[string]api.Ins{
		"bin":                 {Op: api.IBin, C: 1},
		"bin with N":          {Op: api.IBin, N: 1, K: 99},
		"tuple":               {Op: api.ITuple, B: 1, Args: make([]int, 9)},
		"tuple with Regs":     {Op: api.ITuple, Regs: make([]int, 1), Args: make([]int, 9)},
		"get":                 {Op: api.IGet, B: 1, K: 8},
		"get with Args":       {Op: api.IGet, Args: make([]int, 1), K: -1},
		"set":                 {Op: api.ISet, C: 1, K: 8},
		"call of no function": {Op: api.ICall, A: 1, K: 9},
		"call with many":      {Op: api.ICall, B: 1, Regs: make([]int, 7), Args: make([]int, 9)},
	} {
		wantIns(t, what, large(), x, api.ErrForm)
	}
}

// P5.3

// endsOf are the kinds of ends, each with something in each field that it has.
func endsOf() []api.End {
	return []api.End{
		{Op: api.EJump, Yes: api.To{Block: 1, Regs: []int{2}, Args: []int{3}}},
		{Op: api.EIf, A: 4, Yes: api.To{Block: 1, Regs: []int{5}, Args: []int{6}}, No: api.To{Block: 2, Regs: []int{7}, Args: []int{8}}},
		{Op: api.ERet, Args: []int{9, 10}},
	}
}

func blocksOf(n int) api.Func { return api.Func{Blocks: make([]api.Block, n)} }

func TestEndOfEachKind(t *testing.T) {
	for _, e := range endsOf() {
		wantEnd(t, "with its fields", blocksOf(3), e, 0)
		wantEnd(t, "with nothing", blocksOf(3), api.End{Op: e.Op}, 0)
		none := api.To{Regs: []int{}, Args: []int{}}
		wantEnd(t, "with empty lists", blocksOf(3), api.End{Op: e.Op, Yes: none, No: none, Args: []int{}}, 0)
	}
	wantEnd(t, "back, of a function without blocks", api.Func{}, back(), 0)
}

func TestEndOfNoKind(t *testing.T) {
	for _, op := range wrongOps(api.ERet) {
		wantEnd(t, "alone", blocksOf(3), api.End{Op: op}, api.ErrKind)
		for _, e := range endsOf() {
			e.Op = op
			wantEnd(t, "with fields", blocksOf(3), e, api.ErrKind)
		}
		wantEnd(t, "with all that is wrong", blocksOf(3), api.End{Op: op, A: 1, Yes: api.To{Block: 9}, No: api.To{Block: 9}, Args: make([]int, 9)}, api.ErrKind)
	}
}

func TestEndOfFieldsThatItHasNot(t *testing.T) {
	for _, n := range append(wild(), 1, 2, 7) {
		for _, e := range endsOf() {
			with := e
			with.A = n
			if e.Op == api.EIf {
				wantEnd(t, "A of an if", blocksOf(3), with, 0)
			} else {
				wantEnd(t, "A", blocksOf(3), with, api.ErrForm)
			}
			with = e
			with.Args = []int{n}
			if e.Op == api.ERet {
				wantEnd(t, "Args of a ret", blocksOf(3), with, 0)
			} else {
				wantEnd(t, "Args", blocksOf(3), with, api.ErrForm)
			}
		}
		for _, to := range []api.To{{Block: n}, {Regs: []int{n}}, {Args: []int{n}}, {Regs: []int{0}}, {Args: []int{0}}} {
			wantEnd(t, "No of a jump", blocksOf(8), api.End{Op: api.EJump, No: to}, api.ErrForm)
			wantEnd(t, "Yes of a ret", blocksOf(8), api.End{Op: api.ERet, Yes: to}, api.ErrForm)
			wantEnd(t, "No of a ret", blocksOf(8), api.End{Op: api.ERet, No: to}, api.ErrForm)
			wantEnd(t, "both of a ret", blocksOf(8), api.End{Op: api.ERet, Yes: to, No: to}, api.ErrForm)
		}
	}
	wantEnd(t, "Args of a nought", blocksOf(3), api.End{Op: api.EJump, Args: []int{0}}, api.ErrForm)
	wantEnd(t, "Args of an if, a nought", blocksOf(3), api.End{Op: api.EIf, Args: []int{0}}, api.ErrForm)
}

func TestEndCountsWhatGoesBack(t *testing.T) {
	for n := range api.MaxParams + 1 {
		wantEnd(t, "not too many", blocksOf(1), api.End{Op: api.ERet, Args: make([]int, n)}, 0)
	}
	for _, n := range []int{api.MaxParams + 1, api.MaxParams + 2, 256, 1000} {
		wantEnd(t, "too many", blocksOf(1), api.End{Op: api.ERet, Args: make([]int, n)}, api.ErrMany)
		wantEnd(t, "too many of a jump", blocksOf(1), api.End{Op: api.EJump, Args: make([]int, n)}, api.ErrForm)
		wantEnd(t, "too many of an if", blocksOf(1), api.End{Op: api.EIf, Args: make([]int, n)}, api.ErrForm)
	}
}

// ends answers all ends that have the To, with what else they have being right.
func ends(to api.To) []api.End {
	return []api.End{{Op: api.EJump, Yes: to}, {Op: api.EIf, A: -3, Yes: to}, {Op: api.EIf, A: 3, No: to}, {Op: api.EIf, Yes: to, No: to}}
}

func TestEndOfBlocks(t *testing.T) {
	for blocks := 1; blocks < api.MaxBlocks+3; blocks++ {
		for k := range blocks {
			for _, e := range ends(api.To{Block: k}) {
				wantEnd(t, "a block", blocksOf(blocks), e, 0)
			}
		}
		for _, k := range append(wild(), blocks, blocks+1) {
			for _, e := range ends(api.To{Block: k}) {
				wantEnd(t, fmt.Sprint("none of ", blocks, " blocks"), blocksOf(blocks), e, api.ErrRange)
			}
		}
	}
	for _, e := range ends(api.To{}) {
		wantEnd(t, "a function without blocks", api.Func{}, e, api.ErrRange)
	}
}

func TestEndCountsWhatIsHandedOver(t *testing.T) {
	for regs := range api.MaxRegions + 4 {
		for args := range api.MaxParams + 4 {
			want := 0
			if regs > 16 || args > 8 {
				want = api.ErrMany
			}
			for _, e := range ends(api.To{Regs: make([]int, regs), Args: make([]int, args)}) {
				wantEnd(t, fmt.Sprint(regs, " regions, ", args, " values"), blocksOf(1), e, want)
			}
		}
	}
	for _, n := range wild() {
		for _, e := range ends(api.To{Regs: []int{n}, Args: []int{n}}) {
			wantEnd(t, "regions and values that are none", blocksOf(1), e, 0)
		}
	}
}

func TestEndTellsTheFirstOfTwoFaults(t *testing.T) {
	many := api.To{Regs: make([]int, 17), Args: make([]int, 9)}
	beyond := api.To{Block: 3, Regs: make([]int, 17), Args: make([]int, 9)}
	wantEnd(t, "the block, then how many", blocksOf(3), api.End{Op: api.EJump, Yes: beyond}, api.ErrRange)
	wantEnd(t, "Yes, then No of a jump", blocksOf(3), api.End{Op: api.EJump, Yes: many, No: many}, api.ErrMany)
	wantEnd(t, "Yes beyond, then No of a jump", blocksOf(3), api.End{Op: api.EJump, Yes: beyond, No: many}, api.ErrRange)
	wantEnd(t, "Yes, then No of an if", blocksOf(3), api.End{Op: api.EIf, Yes: many, No: beyond}, api.ErrMany)
	wantEnd(t, "Yes beyond, then No of an if", blocksOf(3), api.End{Op: api.EIf, Yes: beyond, No: many}, api.ErrRange)
	wantEnd(t, "A, then Yes", blocksOf(3), api.End{Op: api.EJump, A: 1, Yes: beyond}, api.ErrForm)
	wantEnd(t, "Args, then Yes", blocksOf(3), api.End{Op: api.EIf, Args: []int{1}, Yes: beyond}, api.ErrForm)
	wantEnd(t, "A, then how many", blocksOf(3), api.End{Op: api.ERet, A: 1, Args: make([]int, 9)}, api.ErrForm)
	wantEnd(t, "how many, then Yes", blocksOf(3), api.End{Op: api.ERet, Args: make([]int, 9), Yes: many}, api.ErrMany)
	wantEnd(t, "how many, then No", blocksOf(3), api.End{Op: api.ERet, Args: make([]int, 9), No: many}, api.ErrMany)
}
