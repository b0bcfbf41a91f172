package code

import (
	"fmt"
	"math/rand"
	"slices"
	"strings"
	"testing"

	"copyhold/api"
	"copyhold/types"
)

// ledger notes all faults of a module in the order in which the chapter names them.
type ledger []api.Fault

func (l *ledger) note(at, code int, wrong bool) {
	if wrong {
		*l = append(*l, api.Fault{Code: code, At: at})
	}
}

func (l ledger) first() api.Fault {
	if len(l) == 0 {
		return api.Fault{}
	}
	return l[0]
}

func (l *ledger) types(at int, list []api.Type, regs int) {
	l.note(at, api.ErrMany, len(list) > 8)
	for _, t := range list {
		code := types.Check(t, regs)
		l.note(at, code, code != 0)
	}
}

// plainCheck is the chapter's own words, all of them asked one after the other, whatever was found ahead.
func plainCheck(m api.Module) api.Fault {
	var l ledger
	l.note(-1, api.ErrMany, len(m.Funcs) == 0 || len(m.Funcs) > 8)
	for f, x := range m.Funcs {
		at := 10000*f + 9999
		l.note(at, api.ErrRange, x.Regs < 0 || x.Regs > 6)
		l.types(at, x.Params, x.Regs)
		l.types(at, x.Results, x.Regs)
		l.note(at, api.ErrMany, len(x.Blocks) == 0 || len(x.Blocks) > 12)
		l.note(at, api.ErrMain, f == 0 && (x.Regs != 0 || len(x.Params) != 0))
		for _, t := range x.Results {
			l.note(at, api.ErrMain, f == 0 && t.Kind != api.TInt)
		}
		for b, y := range x.Blocks {
			at := 10000*f + 100*b + 90
			l.note(at, api.ErrRange, y.Regs < x.Regs || y.Regs > 16)
			l.types(at, y.Params, y.Regs)
			l.note(at, api.ErrType, b == 0 && (y.Regs != x.Regs || fmt.Sprint(y.Params) != fmt.Sprint(x.Params)))
			l.note(at, api.ErrMany, len(y.Code) > 40)
			for i, z := range y.Code {
				code := plainIns(len(m.Funcs), z)
				l.note(10000*f+100*b+i, code, code != 0)
			}
			code := plainEnd(len(x.Blocks), y.End)
			l.note(10000*f+100*b+91, code, code != 0)
		}
	}
	return l.first()
}

func plainIns(funcs int, x api.Ins) int {
	var l ledger
	names, ok := fieldNames()[x.Op]
	l.note(0, api.ErrKind, !ok)
	for name, filled := range map[string]bool{"A": x.A != 0, "B": x.B != 0, "C": x.C != 0, "K": x.K != 0, "N": x.N != 0, "Regs": len(x.Regs) != 0, "Args": len(x.Args) != 0} {
		l.note(0, api.ErrForm, filled && !slices.Contains(strings.Fields(names), name))
	}
	l.note(0, api.ErrRange, x.Op == api.IBin && (x.K < 1 || x.K > 9))
	l.note(0, api.ErrMany, x.Op == api.ITuple && len(x.Args) > 8)
	l.note(0, api.ErrRange, (x.Op == api.IGet || x.Op == api.ISet) && (x.K < 0 || x.K > 7))
	l.note(0, api.ErrRange, x.Op == api.ICall && (x.K < 0 || x.K >= funcs))
	l.note(0, api.ErrMany, x.Op == api.ICall && (len(x.Regs) > 6 || len(x.Args) > 8))
	return l.first().Code
}

func plainEnd(blocks int, e api.End) int {
	var l ledger
	jump, fork, ret := e.Op == api.EJump, e.Op == api.EIf, e.Op == api.ERet
	l.note(0, api.ErrKind, !jump && !fork && !ret)
	l.note(0, api.ErrForm, e.A != 0 && !fork || len(e.Args) != 0 && !ret)
	l.note(0, api.ErrMany, len(e.Args) > 8)
	for i, to := range []api.To{e.Yes, e.No} {
		has := fork || i == 0 && jump
		l.note(0, api.ErrRange, has && (to.Block < 0 || to.Block >= blocks))
		l.note(0, api.ErrMany, has && (len(to.Regs) > 16 || len(to.Args) > 8))
		l.note(0, api.ErrForm, !has && fmt.Sprint(to) != fmt.Sprint(api.To{}))
	}
	return l.first().Code
}

// maker makes modules that are right for the most part, so that runs come to faults far within, too.
type maker struct {
	*rand.Rand
	rare int // one of so many choices goes wrong
}

func (r maker) slips() bool { return r.Intn(r.rare) == 0 }

// number is one from 0 to n - 1, but for slips.
func (r maker) number(n int) int {
	if r.slips() || n < 1 {
		return n + r.Intn(3) - 1 - r.Intn(2)*(n+1)
	}
	return r.Intn(n)
}

// count is one of few, and now and then at its bound or one beyond it.
func (r maker) count(most int) int {
	if r.slips() {
		return most + r.Intn(2)
	}
	return r.Intn(min(most, 3) + 1)
}

func (r maker) numbers(most int) []int {
	list := make([]int, r.count(most))
	for i := range list {
		list[i] = r.Intn(40) - 4
	}
	return list
}

func (r maker) typ(regs, depth int) api.Type {
	t := api.Type{Kind: 1 + r.number(4)}
	if regs == 0 && !r.slips() {
		t.Kind = api.TInt
	}
	if t.Kind != api.TInt {
		t.R = r.number(regs)
	}
	if depth > 0 && t.Kind == api.TTuple || r.slips() && r.slips() {
		t.L = r.typeList(regs, depth-1)
	}
	if r.slips() && r.slips() {
		return nested(t, 3+r.Intn(3))
	}
	return t
}

func (r maker) typeList(regs, depth int) []api.Type {
	list := make([]api.Type, r.count(8))
	for i := range list {
		list[i] = r.typ(regs, depth)
	}
	return list
}

func (r maker) ins(funcs int) api.Ins {
	x := api.Ins{Op: 1 + r.number(14)}
	for name := range strings.FieldsSeq(fieldNames()[x.Op]) {
		fillings(r.Intn(9))[name](&x)
	}
	switch x.Op {
	case api.IBin:
		x.K = 1 + r.number(9)
	case api.IGet, api.ISet:
		x.K = r.number(8)
	case api.ITuple:
		x.Args = r.numbers(8)
	case api.ICall:
		x.K, x.Regs, x.Args = r.number(funcs), r.numbers(6), r.numbers(8)
	}
	if r.slips() {
		names := []string{"A", "B", "C", "K", "N", "Regs", "Args"}
		fillings(r.Intn(5) - 1)[names[r.Intn(len(names))]](&x)
	}
	return x
}

func (r maker) to(blocks int) api.To {
	return api.To{Block: r.number(blocks), Regs: r.numbers(16), Args: r.numbers(8)}
}

func (r maker) end(blocks int) api.End {
	e := api.End{Op: 1 + r.number(3)}
	if e.Op == api.EIf || r.slips() {
		e.A = r.Intn(5) - 1
	}
	if e.Op == api.ERet || r.slips() {
		e.Args = r.numbers(8)
	}
	if e.Op == api.EIf || e.Op == api.EJump || r.slips() {
		e.Yes = r.to(blocks)
	}
	if e.Op == api.EIf || r.slips() {
		e.No = r.to(blocks)
	}
	return e
}

func (r maker) block(f api.Func, b, blocks, funcs int) api.Block {
	x := api.Block{Regs: f.Regs, Params: slices.Clone(f.Params), End: r.end(blocks)}
	if b > 0 || r.slips() {
		x.Regs = f.Regs + r.number(17-f.Regs)
		x.Params = r.typeList(x.Regs, 3)
	}
	for range r.count(40) {
		x.Code = append(x.Code, r.ins(funcs))
	}
	return x
}

func (r maker) function(f, funcs int) api.Func {
	x := api.Func{}
	if f > 0 || r.slips() {
		x.Regs = r.number(7)
		x.Params = r.typeList(x.Regs, 4)
	}
	x.Results = r.typeList(x.Regs, 4)
	blocks := r.count(11) + 1 - r.Intn(r.rare)/(r.rare-1)
	for b := range blocks {
		x.Blocks = append(x.Blocks, r.block(x, b, blocks, funcs))
	}
	return x
}

func anyModule(random *rand.Rand) api.Module {
	r := maker{random, 5 << random.Intn(10)}
	m := api.Module{}
	funcs := r.count(8)
	for f := range funcs {
		m.Funcs = append(m.Funcs, r.function(f, funcs))
	}
	return m
}

func TestCheckIsAsThePlainCheck(t *testing.T) {
	codes, places := map[int]int{}, map[string]int{}
	for seed := range int64(20000) {
		m := anyModule(rand.New(rand.NewSource(seed)))
		want := plainCheck(m)
		codes[want.Code]++
		places[kindOfPlace(want)]++
		wantCheck(t, fmt.Sprint("seed ", seed), m, want.Code, want.At)
	}
	for _, code := range []int{0, api.ErrMany, api.ErrRange, api.ErrKind, api.ErrForm, api.ErrMain, api.ErrType, api.ErrDeep} {
		if codes[code] < 20 {
			t.Errorf("the code %d came %d times alone", code, codes[code])
		}
	}
	for _, place := range []string{"none", "module", "function", "block", "end", "instruction"} {
		if places[place] < 100 {
			t.Errorf("a fault of: %s came %d times alone", place, places[place])
		}
	}
}

func kindOfPlace(fault api.Fault) string {
	switch {
	case fault.Code == 0:
		return "none"
	case fault.At == -1:
		return "module"
	case fault.At%10000 == 9999:
		return "function"
	case fault.At%100 == 90:
		return "block"
	case fault.At%100 == 91:
		return "end"
	}
	return "instruction"
}

func TestInsAndEndAreAsThePlainOnes(t *testing.T) {
	for seed := range int64(20000) {
		random := rand.New(rand.NewSource(seed))
		r := maker{random, 2 + random.Intn(8)}
		n := r.Intn(10)
		x, e := r.ins(n), r.end(n)
		wantIns(t, fmt.Sprint("seed ", seed), api.Module{Funcs: make([]api.Func, n)}, x, plainIns(n, x))
		wantEnd(t, fmt.Sprint("seed ", seed), blocksOf(n), e, plainEnd(n, e))
	}
}

func TestAnswersStayTheSame(t *testing.T) {
	for seed := range int64(300) {
		m := anyModule(rand.New(rand.NewSource(seed)))
		other := anyModule(rand.New(rand.NewSource(seed + 1)))
		ahead := fmt.Sprint(Check(m), Same(m, other), Own(m))
		Check(other)
		Own(other)
		if now := fmt.Sprint(Check(m), Same(m, other), Own(m)); now != ahead {
			t.Errorf("seed %d: %s, then %s", seed, ahead, now)
		}
	}
}
