package render

import (
	"fmt"
	"math"
	"slices"
	"strconv"
	"strings"
	"testing"

	"copyhold/api"
	"copyhold/code"
)

// numPlace is a place of one number in a line, where % stands.
type numPlace struct {
	line string
	put  func(n int) api.Block
}

// fieldPlaces are those of numbers that stand in no list.
func fieldPlaces() []numPlace {
	ins := func(line string, of func(n int) api.Ins) numPlace {
		return numPlace{line + ";\n\tret ()", func(n int) api.Block { return api.Block{Code: []api.Ins{of(n)}, End: back()} }}
	}
	return []numPlace{
		ins("bin add % 3", func(n int) api.Ins { return api.Ins{Op: api.IBin, A: n, B: 3, K: api.KAdd} }),
		ins("bin xor 3 %", func(n int) api.Ins { return api.Ins{Op: api.IBin, A: 3, B: n, K: api.KXor} }),
		ins("free %", func(n int) api.Ins { return api.Ins{Op: api.IFree, A: n} }),
		ins("tuple % (3)", func(n int) api.Ins { return api.Ins{Op: api.ITuple, A: n, Args: []int{3}} }),
		ins("get % 3", func(n int) api.Ins { return api.Ins{Op: api.IGet, A: n, K: 3} }),
		ins("set % 3 4", func(n int) api.Ins { return api.Ins{Op: api.ISet, A: n, B: 4, K: 3} }),
		ins("set 3 4 %", func(n int) api.Ins { return api.Ins{Op: api.ISet, A: 3, B: n, K: 4} }),
		ins("array % 3", func(n int) api.Ins { return api.Ins{Op: api.IArray, A: n, B: 3} }),
		ins("array 3 %", func(n int) api.Ins { return api.Ins{Op: api.IArray, A: 3, B: n} }),
		ins("load % 3", func(n int) api.Ins { return api.Ins{Op: api.ILoad, A: n, B: 3} }),
		ins("load 3 %", func(n int) api.Ins { return api.Ins{Op: api.ILoad, A: 3, B: n} }),
		ins("store % 3 4", func(n int) api.Ins { return api.Ins{Op: api.IStore, A: n, B: 3, C: 4} }),
		ins("store 3 % 4", func(n int) api.Ins { return api.Ins{Op: api.IStore, A: 3, B: n, C: 4} }),
		ins("store 3 4 %", func(n int) api.Ins { return api.Ins{Op: api.IStore, A: 3, B: 4, C: n} }),
		ins("len %", func(n int) api.Ins { return api.Ins{Op: api.ILen, A: n} }),
		ins("out %", func(n int) api.Ins { return api.Ins{Op: api.IOut, A: n} }),
		{"if % to 0 <> () else 0 <> ()", func(n int) api.Block { return api.Block{End: api.End{Op: api.EIf, A: n}} }},
	}
}

// numPlaces are those of fields, and the first, a middle and the last one of each list, and an only one.
func numPlaces() []numPlace {
	places := fieldPlaces()
	for _, p := range listPlaces() {
		for _, at := range [][2]int{{0, 1}, {0, p.most}, {p.most / 2, p.most}, {p.most - 1, p.most}, {1, 2}} {
			list := slices.Repeat([]string{"3"}, at[1])
			list[at[0]] = "%"
			places = append(places, numPlace{told(p.line, strings.Join(list, ", ")), func(n int) api.Block {
				list := slices.Repeat([]int{3}, at[1])
				list[at[0]] = n
				return p.put(list).Funcs[0].Blocks[0]
			}})
		}
	}
	return places
}

// afar has a block as the last one of the last function, behind others.
func afar(b api.Block) api.Module {
	m := moduleOf(api.Block{End: back(0)})
	m.Funcs = append(m.Funcs, moduleOf(api.Block{Code: []api.Ins{{Op: api.INew}}, End: back(1)}, b).Funcs...)
	return m
}

func afarText(lines ...string) string {
	return alone("ret (0)") + "func 0 () -> () {\n" + blockText("new", "ret (1)") + blockText(lines...) + "}\n"
}

// notNums are beyond a million or below 0; some look right by their low bits.
func notNums() []int {
	return []int{-1, -2, -1000000, -1000001, 1000001, 1000002, 9999999, 1 << 31, 1 << 32, 1<<32 + 1, -1 << 31, -1 << 32, 1<<32 - 1, math.MinInt, math.MinInt + 1, math.MaxInt, math.MaxInt - 1}
}

func TestTheLeastAndTheGreatestNumber(t *testing.T) {
	for _, p := range numPlaces() {
		for _, n := range []int{0, 1, 9, 10, 11, 99, 100, 65536, 100000, 999999, 1000000} {
			line := told(p.line, strconv.Itoa(n))
			wantText(t, moduleOf(p.put(n)), alone(line))
			wantText(t, afar(p.put(n)), afarText(line))
		}
	}
}

func TestNumbersBeyond(t *testing.T) {
	for _, p := range numPlaces() {
		for _, n := range notNums() {
			what := told(p.line, strconv.Itoa(n))
			wantFault(t, what, moduleOf(p.put(n)), api.ErrNumber, -1)
			wantFault(t, what, moduleOf(p.put(n), api.Block{End: back()}), api.ErrNumber, -1)
			wantFault(t, what, afar(p.put(n)), api.ErrNumber, -1)
		}
	}
}

// The K of an instruction and the Block of a To have bounds of their own, by code.Check, which come first.
func TestNumbersThatCheckBounds(t *testing.T) {
	for _, n := range []int{0, 1, api.MaxFields - 1} {
		wantText(t, only(back(), api.Ins{Op: api.IGet, K: n}), alone(fmt.Sprint("get 0 ", n), "ret ()"))
		wantText(t, only(back(), api.Ins{Op: api.ISet, K: n}), alone(fmt.Sprint("set 0 ", n, " 0"), "ret ()"))
	}
	for op, most := range map[int]int{api.IBin: api.KXor, api.IGet: api.MaxFields - 1, api.ISet: api.MaxFields - 1, api.ICall: 0} {
		for _, n := range append(notNums(), most+1, 1000000) {
			wantFault(t, fmt.Sprint("K ", n), only(back(), api.Ins{Op: api.INew}, api.Ins{Op: op, K: n}), api.ErrRange, 1)
		}
	}
	for _, n := range append(notNums(), 1, 1000000) {
		wantFault(t, fmt.Sprint("Block ", n), only(api.End{Op: api.EJump, Yes: api.To{Block: n}}), api.ErrRange, 91)
		wantFault(t, fmt.Sprint("Block ", n), only(api.End{Op: api.EIf, Yes: api.To{Block: n}}), api.ErrRange, 91)
		wantFault(t, fmt.Sprint("Block ", n), only(api.End{Op: api.EIf, No: api.To{Block: n}}), api.ErrRange, 91)
	}
}

func TestCallsAndJumpsToEach(t *testing.T) {
	for n := range api.MaxFuncs {
		m := api.Module{Funcs: slices.Repeat(only(back()).Funcs, api.MaxFuncs)}
		m.Funcs[0].Blocks = []api.Block{{Code: []api.Ins{{Op: api.ICall, K: n}}, End: back()}}
		wantText(t, m, alone(fmt.Sprint("call ", n, " <> ()"), "ret ()")+strings.Repeat(alone("ret ()"), api.MaxFuncs-1))
	}
	for n := range api.MaxBlocks {
		blocks := slices.Repeat([]api.Block{{End: back()}}, api.MaxBlocks)
		blocks[0].End = api.End{Op: api.EJump, Yes: api.To{Block: n}}
		rest := strings.Repeat(blockText("ret ()"), api.MaxBlocks-1)
		wantText(t, moduleOf(blocks...), "func 0 () -> () {\n"+blockText(fmt.Sprint("jump ", n, " <> ()"))+rest+"}\n")
		blocks[0].End = api.End{Op: api.EIf, Yes: api.To{Block: n}, No: api.To{Block: api.MaxBlocks - 1 - n}}
		wantText(t, moduleOf(blocks...), "func 0 () -> () {\n"+blockText(fmt.Sprint("if 0 to ", n, " <> () else ", api.MaxBlocks-1-n, " <> ()"))+rest+"}\n")
	}
}

func TestTheNumberOfAnINum(t *testing.T) {
	for text, n := range map[string]int64{
		"-9223372036854775808": math.MinInt64,
		"-9223372036854775807": math.MinInt64 + 1,
		"9223372036854775807":  math.MaxInt64,
		"9223372036854775806":  math.MaxInt64 - 1,
		"1000000":              1000000,
		"1000001":              1000001,
		"-1000001":             -1000001,
		"4294967296":           1 << 32,
		"-2147483649":          -1<<31 - 1,
		"-10":                  -10,
		"-1":                   -1,
		"0":                    0,
		"1":                    1,
		"10":                   10,
	} {
		wantText(t, only(back(), api.Ins{Op: api.INum, N: n}), alone("num "+text, "ret ()"))
		wantText(t, afar(only(back(), api.Ins{Op: api.INum, N: n}).Funcs[0].Blocks[0]), afarText("num "+text, "ret ()"))
	}
}

// How long a text may be

// numOf is an instruction whose line has so many bytes, from 8 to 27: \tnum N;\n.
func numOf(length int) api.Ins {
	if length == 27 {
		return api.Ins{Op: api.INum, N: math.MinInt64}
	}
	n := int64(1)
	for range length - 8 {
		n *= 10
	}
	return api.Ins{Op: api.INum, N: n}
}

// fillUp puts instructions into a module's blocks till its text has just so many bytes, from the first block on, or from the last one.
func fillUp(t *testing.T, m api.Module, length int, fromLast bool) {
	t.Helper()
	var blocks []*api.Block
	for _, f := range m.Funcs {
		for b := range f.Blocks {
			blocks = append(blocks, &f.Blocks[b])
		}
	}
	if fromLast {
		slices.Reverse(blocks)
	}
	left, at := length-len(plainText(m)), 0
	for left > 0 {
		next := min(left, 27)
		if left > 27 && left < 35 {
			next = 8
		}
		blocks[at/api.MaxCode].Code = append(blocks[at/api.MaxCode].Code, numOf(next))
		left, at = left-next, at+1
	}
	if got := len(plainText(m)); got != length {
		t.Fatalf("a text of %d bytes, not of %d", got, length)
	}
}

// bare has as many blocks as may be, with nothing in them.
func bare() api.Module {
	var m api.Module
	for range api.MaxFuncs {
		m.Funcs = append(m.Funcs, moduleOf(slices.Repeat([]api.Block{{End: back()}}, api.MaxBlocks)...).Funcs...)
	}
	return m
}

// typed has types for the most part.
func typed() api.Module {
	list := slices.Repeat([]api.Type{tupleAt(0, slices.Repeat([]api.Type{handleOf(1)}, api.MaxFields)...)}, api.MaxParams)
	m := bare()
	for i := range m.Funcs[1:] {
		f := &m.Funcs[i+1]
		f.Regs, f.Results = 2, list
		for b := range f.Blocks {
			f.Blocks[b].Regs = 2
			if b%2 == 1 {
				f.Blocks[b].Params = list
			}
		}
	}
	return m
}

func TestHowLongATextMayBe(t *testing.T) {
	for _, fromLast := range []bool{false, true} {
		for _, start := range []func() api.Module{bare, typed} {
			for length := api.MaxText - 40; length <= api.MaxText; length++ {
				m := start()
				fillUp(t, m, length, fromLast)
				wantText(t, m, plainText(m))
			}
			for length := api.MaxText + 1; length <= api.MaxText+90; length++ {
				m := start()
				fillUp(t, m, length, fromLast)
				wantFault(t, fmt.Sprint(length, " bytes"), m, api.ErrMany, -1)
			}
			for _, length := range []int{40960, 50000, 65536, 80000} {
				m := start()
				fillUp(t, m, length, fromLast)
				wantFault(t, fmt.Sprint(length, " bytes"), m, api.ErrMany, -1)
			}
		}
	}
}

// fullType is a type with as many types in it, and as deep, as may be.
func fullType(around int) api.Type {
	if around == 0 {
		return tupleAt(0)
	}
	return tupleAt(0, slices.Repeat([]api.Type{fullType(around - 1)}, api.MaxFields)...)
}

func TestTheLongestTypes(t *testing.T) {
	full := slices.Repeat([]api.Type{fullType(api.MaxNested)}, api.MaxParams)
	m := only(back())
	for range api.MaxFuncs - 1 {
		blocks := slices.Repeat([]api.Block{{Regs: 1, Params: full, End: back()}}, api.MaxBlocks)
		m.Funcs = append(m.Funcs, api.Func{Regs: 1, Params: full, Results: full, Blocks: blocks})
	}
	if _, fault := Print(m); fault != (api.Fault{Code: api.ErrMany, At: -1}) {
		t.Errorf("fault %v", fault)
	}
	m.Funcs[7].Blocks[11].End.Args = []int{-1}
	if _, fault := Print(m); fault != (api.Fault{Code: api.ErrNumber, At: -1}) {
		t.Errorf("with a number: fault %v", fault)
	}
	m.Funcs[7].Blocks[11].End.A = 1
	if _, fault := Print(m); fault != (api.Fault{Code: api.ErrForm, At: code.EndAt(7, 11)}) {
		t.Errorf("with another fault: fault %v", fault)
	}
	one := only(back())
	one.Funcs = append(one.Funcs, api.Func{Regs: 1, Params: full[:1], Blocks: []api.Block{{Regs: 1, Params: full[:1], End: back()}}})
	wantFault(t, "one full type", one, api.ErrMany, -1)
	smaller := []api.Type{fullType(api.MaxNested - 1)}
	one.Funcs[1] = api.Func{Regs: 1, Params: smaller, Blocks: []api.Block{{Regs: 1, Params: smaller, End: back()}}}
	wantText(t, one, plainText(one))
}
