package codec

import (
	"bytes"
	"fmt"
	"math"
	"reflect"
	"slices"
	"testing"

	"copyhold/api"
	"copyhold/code"
)

func intType() api.Type       { return api.Type{Kind: api.TInt} }
func handleOf(r int) api.Type { return api.Type{Kind: api.THandle, R: r} }
func arrayAt(r int) api.Type  { return api.Type{Kind: api.TArray, R: r} }

func tupleAt(r int, fields ...api.Type) api.Type {
	return api.Type{Kind: api.TTuple, R: r, L: fields}
}

// short keeps what a test tells to a line.
func short(x any) string {
	s := fmt.Sprint(x)
	if len(s) > 400 {
		return fmt.Sprintf("%s .. and %d more", s[:400], len(s)-400)
	}
	return s
}

// look tells all of a thing, with an empty list like none.
func look(x any) string { return fmt.Sprintf("%+v", x) }

// wantBytes: Encode of the module is those bytes, and Decode of them is the module.
func wantBytes(t *testing.T, m api.Module, want []byte) {
	t.Helper()
	was := look(m)
	got, fault := Encode(m)
	if fault != (api.Fault{}) {
		t.Errorf("Encode(%s): fault %v, want none", short(m), fault)
	} else if !bytes.Equal(got, want) {
		t.Errorf("Encode(%s) = %s, want %s", short(m), short(got), short(want))
	}
	if look(m) != was {
		t.Errorf("Encode(%s) changed its module", short(was))
	}
	wantModule(t, want, m)
}

func wantModule(t *testing.T, b []byte, want api.Module) {
	t.Helper()
	was := slices.Clone(b)
	got, fault := Decode(b)
	if fault != (api.Fault{}) {
		t.Errorf("Decode(%s): fault %v, want none", short(b), fault)
	} else if !code.Same(got, want) || look(got) != look(want) {
		t.Errorf("Decode(%s) = %s, want %s", short(b), short(got), short(want))
	}
	if !bytes.Equal(b, was) {
		t.Errorf("Decode(%s) changed its bytes", short(was))
	}
}

func wantEncodeFault(t *testing.T, m api.Module, code, at int) {
	t.Helper()
	was := look(m)
	got, fault := Encode(m)
	if want := (api.Fault{Code: code, At: at}); fault != want {
		t.Errorf("Encode(%s): fault %v, want %v", short(m), fault, want)
	}
	if len(got) > 0 {
		t.Errorf("Encode(%s): bytes beside a fault: %s", short(m), short(got))
	}
	if look(m) != was {
		t.Errorf("Encode(%s) changed its module", short(was))
	}
}

func wantFault(t *testing.T, b []byte, code, at int) {
	t.Helper()
	was := slices.Clone(b)
	got, fault := Decode(b)
	if want := (api.Fault{Code: code, At: at}); fault != want {
		t.Errorf("Decode(%s): fault %v, want %v", short(b), fault, want)
	}
	if !reflect.DeepEqual(got, api.Module{}) {
		t.Errorf("Decode(%s): a module beside a fault: %s", short(b), short(got))
	}
	if !bytes.Equal(b, was) {
		t.Errorf("Decode(%s) changed its bytes", short(was))
	}
}

// joined is the bytes of several pieces.
func joined(pieces ...[]byte) []byte { return slices.Concat(pieces...) }

// only is a module of one function, of one block.
func only(b api.Block) api.Module {
	return api.Module{Funcs: []api.Func{{Blocks: []api.Block{b}}}}
}

// onlyCode is such a module, whose block gives nothing back.
func onlyCode(list ...api.Ins) api.Module {
	return only(api.Block{Code: list, End: api.End{Op: api.ERet}})
}

// onlyBytes are the bytes of such a module with one instruction.
func onlyBytes(ins ...byte) []byte {
	return framed(joined([]byte{2, 0, 0, 0, 2, 0, 0, 2}, ins, []byte{6, 0})...)
}

// Ordinary modules

func TestTheLeastModule(t *testing.T) {
	wantBytes(t, onlyCode(), []byte{67, 72, 1, 2, 0, 0, 0, 2, 0, 0, 0, 6, 0, 153, 115, 181, 231})
}

func TestTheSumsBytes(t *testing.T) {
	b, _ := Encode(onlyCode())
	end := len(b) - 4
	sum := uint64(b[end]) + uint64(b[end+1])*256 + uint64(b[end+2])*65536 + uint64(b[end+3])*16777216
	if sum != uint64(Sum(b[:end])) {
		t.Errorf("the last four bytes are %d, Sum is %d", sum, Sum(b[:end]))
	}
}

func TestEachInstruction(t *testing.T) {
	ops := map[int]bool{}
	for _, c := range []struct {
		ins   api.Ins
		bytes []byte
	}{
		{api.Ins{Op: api.INum, N: 5}, []byte{2, 10}},
		{api.Ins{Op: api.INum, N: -65}, []byte{2, 129, 1}},
		{api.Ins{Op: api.INum}, []byte{2, 0}},
		{api.Ins{Op: api.IBin, A: 11, B: 12, K: api.KDiv}, []byte{4, 22, 24, 8}},
		{api.Ins{Op: api.INew}, []byte{6}},
		{api.Ins{Op: api.IFree, A: 13}, []byte{8, 26}},
		{api.Ins{Op: api.ITuple, A: 14}, []byte{10, 28, 0}},
		{api.Ins{Op: api.ITuple, A: 14, Args: []int{15}}, []byte{10, 28, 2, 30}},
		{api.Ins{Op: api.ITuple, A: 14, Args: []int{15, -16, 15}}, []byte{10, 28, 6, 30, 31, 30}},
		{api.Ins{Op: api.IGet, A: 17, K: 3}, []byte{12, 34, 6}},
		{api.Ins{Op: api.ISet, A: 18, B: 19, K: 4}, []byte{14, 36, 38, 8}},
		{api.Ins{Op: api.IArray, A: 20, B: 21}, []byte{16, 40, 42}},
		{api.Ins{Op: api.ILoad, A: 22, B: 23}, []byte{18, 44, 46}},
		{api.Ins{Op: api.IStore, A: 24, B: 25, C: 26}, []byte{20, 48, 50, 52}},
		{api.Ins{Op: api.ILen, A: 27}, []byte{22, 54}},
		{api.Ins{Op: api.IIn}, []byte{24}},
		{api.Ins{Op: api.IOut, A: 28}, []byte{26, 56}},
		{api.Ins{Op: api.ICall}, []byte{28, 0, 0, 0}},
		{api.Ins{Op: api.ICall, Regs: []int{29}}, []byte{28, 0, 2, 58, 0}},
		{api.Ins{Op: api.ICall, Args: []int{30}}, []byte{28, 0, 0, 2, 60}},
		{api.Ins{Op: api.ICall, Regs: []int{31, 32}, Args: []int{33, 34, 35}}, []byte{28, 0, 4, 62, 64, 6, 66, 68, 70}},
	} {
		ops[c.ins.Op] = true
		wantBytes(t, onlyCode(c.ins), onlyBytes(c.bytes...))
		four := only(api.Block{Code: []api.Ins{{Op: api.IIn}, c.ins, {Op: api.INew}, c.ins}, End: api.End{Op: api.ERet, Args: []int{1}}})
		wantBytes(t, four, framed(joined([]byte{2, 0, 0, 0, 2, 0, 0, 8, 24}, c.bytes, []byte{6}, c.bytes, []byte{6, 2, 2})...))
	}
	for op := api.INum; op <= api.ICall; op++ {
		if !ops[op] {
			t.Errorf("no instruction of the kind %d", op)
		}
	}
}

func TestCallsOfOtherFunctions(t *testing.T) {
	back := api.Func{Blocks: []api.Block{{End: api.End{Op: api.ERet}}}}
	m := onlyCode(api.Ins{Op: api.ICall, K: 2, Args: []int{6, 7}})
	m.Funcs = append(m.Funcs, back, back)
	rest := []byte{0, 0, 0, 2, 0, 0, 0, 6, 0}
	wantBytes(t, m, framed(joined([]byte{6, 0, 0, 0, 2, 0, 0, 2, 28, 4, 0, 4, 12, 14, 6, 0}, rest, rest)...))
}

func TestEachEnd(t *testing.T) {
	back := api.Block{End: api.End{Op: api.ERet}}
	for _, c := range []struct {
		end   api.End
		bytes []byte
	}{
		{api.End{Op: api.EJump}, []byte{2, 0, 0, 0}},
		{api.End{Op: api.EJump, Yes: api.To{Block: 1, Regs: []int{2}, Args: []int{3}}}, []byte{2, 2, 2, 4, 2, 6}},
		{api.End{Op: api.EJump, Yes: api.To{Block: 2, Regs: []int{2, -3}, Args: []int{4, 5, 64}}}, []byte{2, 4, 4, 4, 5, 6, 8, 10, 128, 1}},
		{api.End{Op: api.EIf}, []byte{4, 0, 0, 0, 0, 0, 0, 0}},
		{api.End{Op: api.EIf, A: 7, Yes: api.To{Block: 1, Regs: []int{8}, Args: []int{9}}, No: api.To{Block: 2, Regs: []int{10}, Args: []int{11}}}, []byte{4, 14, 2, 2, 16, 2, 18, 4, 2, 20, 2, 22}},
		{api.End{Op: api.EIf, A: -7, Yes: api.To{Block: 2, Regs: []int{8, 9}}, No: api.To{Block: 1, Args: []int{10, 11}}}, []byte{4, 13, 4, 4, 16, 18, 0, 2, 0, 4, 20, 22}},
		{api.End{Op: api.ERet}, []byte{6, 0}},
		{api.End{Op: api.ERet, Args: []int{12}}, []byte{6, 2, 24}},
		{api.End{Op: api.ERet, Args: []int{12, 13, 12}}, []byte{6, 6, 24, 26, 24}},
	} {
		m := api.Module{Funcs: []api.Func{{Blocks: []api.Block{back, {End: c.end}, back}}}}
		rest := []byte{0, 0, 0, 6, 0}
		wantBytes(t, m, framed(joined([]byte{2, 0, 0, 0, 6}, rest, []byte{0, 0, 0}, c.bytes, rest)...))
	}
}

// nested is a type in which so many stand in one another, the innermost one with an empty list.
func nested(n int) api.Type {
	if n == 0 {
		return tupleAt(n)
	}
	return tupleAt(n%api.MaxRegs, nested(n-1))
}

func TestTypes(t *testing.T) {
	for _, c := range []struct {
		list  []api.Type
		bytes []byte
	}{
		{nil, []byte{0}},
		{[]api.Type{intType()}, []byte{2, 2}},
		{[]api.Type{handleOf(1)}, []byte{2, 4, 2}},
		{[]api.Type{arrayAt(2)}, []byte{2, 8, 4}},
		{[]api.Type{tupleAt(3)}, []byte{2, 6, 6, 0}},
		{[]api.Type{tupleAt(0, intType())}, []byte{2, 6, 0, 2, 2}},
		{[]api.Type{intType(), intType(), intType()}, []byte{6, 2, 2, 2}},
		{[]api.Type{tupleAt(1, intType(), handleOf(2), arrayAt(3), tupleAt(0)), intType()}, []byte{4, 6, 2, 8, 2, 4, 4, 8, 6, 6, 0, 0, 2}},
		{[]api.Type{nested(4)}, []byte{2, 6, 8, 2, 6, 6, 2, 6, 4, 2, 6, 2, 2, 6, 0, 0}},
	} {
		first := []byte{4, 0, 0, 0, 2, 0, 0, 0, 6, 0, 12}
		back := api.Block{Regs: 6, End: api.End{Op: api.ERet}}
		module := func(f api.Func) api.Module {
			return api.Module{Funcs: []api.Func{onlyCode().Funcs[0], f}}
		}
		wantBytes(t, module(api.Func{Regs: 6, Results: c.list, Blocks: []api.Block{back}}), framed(joined(first, []byte{0}, c.bytes, []byte{2, 12, 0, 0, 6, 0})...))
		handed := back
		handed.Params = c.list
		wantBytes(t, module(api.Func{Regs: 6, Params: c.list, Blocks: []api.Block{handed}}), framed(joined(first, c.bytes, []byte{0, 2, 12}, c.bytes, []byte{0, 6, 0})...))
		wantBytes(t, module(api.Func{Regs: 6, Blocks: []api.Block{back, handed}}), framed(joined(first, []byte{0, 0, 4, 12, 0, 0, 6, 0, 12}, c.bytes, []byte{0, 6, 0})...))
	}
}

func TestFieldsOfFunctionsAndBlocks(t *testing.T) {
	m := api.Module{Funcs: []api.Func{
		{Results: []api.Type{intType(), intType()}, Blocks: []api.Block{{End: api.End{Op: api.ERet, Args: []int{0, 1}}}}},
		{Regs: 3, Params: []api.Type{handleOf(2), intType()}, Results: []api.Type{arrayAt(1)}, Blocks: []api.Block{
			{Regs: 3, Params: []api.Type{handleOf(2), intType()}, Code: []api.Ins{{Op: api.IIn}}, End: api.End{Op: api.EJump, Yes: api.To{Block: 1, Regs: []int{0, 1, 2, 3}, Args: []int{0}}}},
			{Regs: 16, Params: []api.Type{handleOf(15)}, Code: []api.Ins{{Op: api.INew}, {Op: api.IFree, A: 1}}, End: api.End{Op: api.ERet, Args: []int{7}}},
		}},
	}}
	wantBytes(t, m, framed(
		4,
		0, 0, 4, 2, 2, 2, 0, 0, 0, 6, 4, 0, 2,
		6, 4, 4, 4, 2, 2, 8, 2, 4,
		6, 4, 4, 4, 2, 2, 24, 2, 2, 8, 0, 2, 4, 6, 2, 0,
		32, 2, 4, 30, 4, 6, 8, 2, 6, 2, 14,
	))
}

func TestListsOfEachLength(t *testing.T) {
	back := api.Block{End: api.End{Op: api.ERet}}
	rest := []byte{0, 0, 0, 6, 0}
	for n := 1; n <= api.MaxFuncs; n++ {
		f := joined([]byte{0, 0, 0, 2}, rest)
		wantBytes(t, api.Module{Funcs: slices.Repeat(onlyCode().Funcs, n)}, framed(joined([]byte{byte(2 * n)}, bytes.Repeat(f, n))...))
	}
	for n := 1; n <= api.MaxBlocks; n++ {
		m := api.Module{Funcs: []api.Func{{Blocks: slices.Repeat([]api.Block{back}, n)}}}
		wantBytes(t, m, framed(joined([]byte{2, 0, 0, 0, byte(2 * n)}, bytes.Repeat(rest, n))...))
	}
	for n := 0; n <= api.MaxCode; n++ {
		m := onlyCode(slices.Repeat([]api.Ins{{Op: api.IIn}}, n)...)
		wantBytes(t, m, framed(joined([]byte{2, 0, 0, 0, 2, 0, 0, byte(2 * n)}, bytes.Repeat([]byte{24}, n), []byte{6, 0})...))
	}
	for n := 0; n <= api.MaxParams; n++ {
		m := onlyCode()
		m.Funcs[0].Results = slices.Repeat([]api.Type{intType()}, n)
		wantBytes(t, m, framed(joined([]byte{2, 0, 0, byte(2 * n)}, bytes.Repeat([]byte{2}, n), []byte{2, 0, 0, 0, 6, 0})...))
	}
	for n := 0; n <= api.MaxRegions; n++ {
		m := only(api.Block{End: api.End{Op: api.EJump, Yes: api.To{Regs: slices.Repeat([]int{9}, n)}}})
		wantBytes(t, m, framed(joined([]byte{2, 0, 0, 0, 2, 0, 0, 0, 2, 0, byte(2 * n)}, bytes.Repeat([]byte{18}, n), []byte{0})...))
	}
}

func TestEmptyListsLikeNone(t *testing.T) {
	m := api.Module{Funcs: []api.Func{{Params: []api.Type{}, Results: []api.Type{}, Blocks: []api.Block{{Params: []api.Type{}, Code: []api.Ins{}, End: api.End{Op: api.ERet, Args: []int{}, Yes: api.To{Regs: []int{}, Args: []int{}}}}}}}}
	wantBytes(t, m, framed(2, 0, 0, 0, 2, 0, 0, 0, 6, 0))
}

// Numbers

func TestNumbersInBytes(t *testing.T) {
	for n, b := range map[int64][]byte{
		0:                    {0},
		-1:                   {1},
		1:                    {2},
		-2:                   {3},
		63:                   {126},
		-64:                  {127},
		64:                   {128, 1},
		-65:                  {129, 1},
		100:                  {200, 1},
		8191:                 {254, 127},
		-8192:                {255, 127},
		8192:                 {128, 128, 1},
		-8193:                {129, 128, 1},
		1<<62 - 1:            {254, 255, 255, 255, 255, 255, 255, 255, 127},
		-1 << 62:             {255, 255, 255, 255, 255, 255, 255, 255, 127},
		1 << 62:              {128, 128, 128, 128, 128, 128, 128, 128, 128, 1},
		-1<<62 - 1:           {129, 128, 128, 128, 128, 128, 128, 128, 128, 1},
		math.MaxInt64:        {254, 255, 255, 255, 255, 255, 255, 255, 255, 1},
		math.MinInt64:        {255, 255, 255, 255, 255, 255, 255, 255, 255, 1},
		math.MaxInt32:        {254, 255, 255, 255, 15},
		-1234567890123456789: {169, 132, 204, 222, 143, 189, 136, 162, 34},
	} {
		wantBytes(t, onlyCode(api.Ins{Op: api.INum, N: n}), onlyBytes(joined([]byte{2}, b)...))
		wantBytes(t, onlyCode(api.Ins{Op: api.IFree, A: int(n)}), onlyBytes(joined([]byte{8}, b)...))
	}
}

// wantNumber: the number is told in each field that may have any one.
func wantNumber(t *testing.T, n int64) {
	t.Helper()
	b, k := plainNumber(n), int(n)
	wantBytes(t, onlyCode(api.Ins{Op: api.INum, N: n}), onlyBytes(joined([]byte{2}, b)...))
	wantBytes(t, onlyCode(api.Ins{Op: api.IStore, A: k, B: k, C: k}), onlyBytes(joined([]byte{20}, b, b, b)...))
	wantBytes(t, onlyCode(api.Ins{Op: api.ICall, Regs: []int{1, k}, Args: []int{k, 1}}), onlyBytes(joined([]byte{28, 0, 4, 2}, b, []byte{4}, b, []byte{2})...))
	to := api.To{Regs: []int{k, 2}, Args: []int{2, k}}
	wantBytes(t, only(api.Block{End: api.End{Op: api.EIf, A: k, Yes: to, No: to}}), framed(joined([]byte{2, 0, 0, 0, 2, 0, 0, 0, 4}, b, []byte{0, 4}, b, []byte{4, 4, 4}, b, []byte{0, 4}, b, []byte{4, 4, 4}, b)...))
	wantBytes(t, only(api.Block{End: api.End{Op: api.ERet, Args: []int{k}}}), framed(joined([]byte{2, 0, 0, 0, 2, 0, 0, 0, 6, 2}, b)...))
}

func TestNumbersOfEachNumberOfBytes(t *testing.T) {
	sizes := map[int]int{}
	for _, n := range edgeNumbers() {
		wantNumber(t, n)
		sizes[len(plainNumber(n))]++
	}
	for size := 1; size <= 10; size++ {
		if sizes[size] < 4 {
			t.Errorf("%d numbers of %d bytes", sizes[size], size)
		}
	}
}

func TestAnyNumbers(t *testing.T) {
	r := newMaker(1)
	for range 1000 {
		wantNumber(t, int64(r.Uint64())>>r.Intn(64))
	}
	for n := int64(-300); n <= 300; n++ {
		wantNumber(t, n)
	}
	for bit := range 63 {
		for _, near := range []int64{-2, -1, 0, 1, 2} {
			wantNumber(t, 1<<bit+near)
			wantNumber(t, -1<<bit+near)
		}
	}
}

func TestEachKindOfArithmeticAndEachField(t *testing.T) {
	for k := api.KAdd; k <= api.KXor; k++ {
		wantBytes(t, onlyCode(api.Ins{Op: api.IBin, A: 1, K: k}), onlyBytes(4, 2, 0, byte(2*k)))
	}
	for k := range api.MaxFields {
		wantBytes(t, onlyCode(api.Ins{Op: api.IGet, A: 1, K: k}), onlyBytes(12, 2, byte(2*k)))
		wantBytes(t, onlyCode(api.Ins{Op: api.ISet, A: 1, K: k}), onlyBytes(14, 2, 0, byte(2*k)))
	}
}
