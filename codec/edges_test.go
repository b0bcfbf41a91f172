package codec

import (
	"math"
	"slices"
	"testing"

	"copyhold/api"
	"copyhold/code"
)

// sized is a module of just so many bytes, from 45 or so up to 40000: blocks full of numbers as long as it needs.
func sized(n int) api.Module {
	funcs := 1 + n/5000
	m := api.Module{Funcs: make([]api.Func, funcs)}
	left := n - 4 - 3 - 1
	for i := range m.Funcs {
		m.Funcs[i].Blocks = make([]api.Block, min(1+n/400/funcs, api.MaxBlocks))
		left -= 4 + 5*len(m.Funcs[i].Blocks)
		for k := range m.Funcs[i].Blocks {
			m.Funcs[i].Blocks[k].End.Op = api.ERet
		}
	}
	for i := range m.Funcs {
		for k := range m.Funcs[i].Blocks {
			b := &m.Funcs[i].Blocks[k]
			for left > 0 && len(b.Code) < api.MaxCode {
				x := filler(min(left, 11))
				b.Code = append(b.Code, x)
				left -= min(left, 11)
			}
		}
	}
	return m
}

// filler is an instruction of so many bytes, from 1 to 11.
func filler(size int) api.Ins {
	if size == 1 {
		return api.Ins{Op: api.IIn}
	}
	return api.Ins{Op: api.INum, N: math.MinInt64 >> (70 - 7*max(size-1, 0))}
}

func TestJustMaxBytes(t *testing.T) {
	for n := 19970; n <= 20000; n++ {
		m := sized(n)
		if got := plainBytes(m); len(got) != n || code.Check(m).Code != 0 {
			t.Fatalf("a module of %d bytes, not %d", len(got), n)
		}
		wantBytes(t, m, plainBytes(m))
	}
	for n := 20001; n <= 20030; n++ {
		m := sized(n)
		if got := plainBytes(m); len(got) != n || code.Check(m).Code != 0 {
			t.Fatalf("a module of %d bytes, not %d", len(got), n)
		}
		wantEncodeFault(t, m, api.ErrMany, -1)
		wantFault(t, plainBytes(m), api.ErrMany, 20000)
	}
	for _, n := range []int{20100, 22222, 30000, 39000} {
		wantEncodeFault(t, sized(n), api.ErrMany, -1)
	}
}

// padded is the module with functions ahead of its own, so that it has just so many bytes.
func padded(m api.Module, n int) api.Module {
	return api.Module{Funcs: append(sized(n-len(plainBytes(m))+8).Funcs, m.Funcs...)}
}

// tails are modules with each kind of part at their end.
func tails() []api.Module {
	list := []int{1, -2, 300, 4, 5, 60000, 7, 8}
	to := api.To{Regs: list, Args: list}
	var all []api.Module
	for _, e := range []api.End{{Op: api.EJump, Yes: to}, {Op: api.EIf, A: math.MinInt64, Yes: to, No: to}, {Op: api.ERet, Args: list}, {Op: api.ERet}} {
		all = append(all, only(api.Block{End: e}))
	}
	for _, x := range whole().Funcs[0].Blocks[0].Code {
		x.K = min(x.K, 1)
		all = append(all, onlyCode(x, x, x))
	}
	wide := tupleAt(1, nested(3), intType(), tupleAt(0, handleOf(1), arrayAt(0)))
	wide.L[0].R = 1
	wide.L[0].L = []api.Type{tupleAt(0, tupleAt(1))}
	types := []api.Type{wide, intType(), wide}
	back := api.Block{Regs: 2, End: api.End{Op: api.ERet}}
	handed := back
	handed.Params = types
	for _, f := range []api.Func{{Params: types, Blocks: []api.Block{handed}}, {Results: types, Blocks: []api.Block{back, back}}, {Blocks: []api.Block{back, handed}}} {
		f.Regs = 2
		all = append(all, api.Module{Funcs: []api.Func{f}})
	}
	return all
}

// The bytes are too many wherever the first one lies that is too many.
func TestTooManyBytesAtEachPlace(t *testing.T) {
	for _, tail := range tails() {
		size := len(plainBytes(tail))
		for n := 20000; n <= 20000+size; n++ {
			m := padded(tail, n)
			if n == 20000 || n == 20000+size {
				if b := plainBytes(m); len(b) != n || code.Check(m).Code != 0 {
					t.Fatalf("a module of %d bytes, not %d, %v", len(b), n, code.Check(m))
				}
			}
			want := api.Fault{}
			if n > 20000 {
				want = api.Fault{Code: api.ErrMany, At: -1}
			}
			if b, fault := Encode(m); fault != want || fault.Code == 0 && len(b) != n {
				t.Errorf("%d bytes, the last ones of %s: %d, %v", n, short(tail), len(b), fault)
			}
		}
	}
}

func TestTooManyBytesOfTypesAlone(t *testing.T) {
	for _, kind := range []api.Type{intType(), handleOf(0), arrayAt(0)} {
		wide := kind
		for range api.MaxNested {
			wide = tupleAt(0, slices.Repeat([]api.Type{wide}, api.MaxFields)...)
		}
		list := slices.Repeat([]api.Type{wide}, api.MaxParams)
		f := api.Func{Regs: 1, Params: list, Results: list, Blocks: []api.Block{{Regs: 1, Params: list, End: api.End{Op: api.ERet}}}}
		for range api.MaxBlocks - 1 {
			f.Blocks = append(f.Blocks, f.Blocks[0])
		}
		m := onlyCode()
		for range api.MaxFuncs - 1 {
			m.Funcs = append(m.Funcs, f)
		}
		if b, fault := Encode(m); len(b) > 0 || fault != (api.Fault{Code: api.ErrMany, At: -1}) {
			t.Errorf("types of %s: %d bytes, %v", short(kind), len(b), fault)
		}
		m.Funcs = []api.Func{onlyCode().Funcs[0], {Regs: 1, Results: []api.Type{wide}, Blocks: []api.Block{{Regs: 1, End: api.End{Op: api.ERet}}}}}
		wantBytes(t, m, plainBytes(m))
	}
}
