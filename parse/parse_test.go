package parse

import (
	"fmt"
	"math"
	"math/rand"
	"reflect"
	"slices"
	"strconv"
	"strings"
	"testing"

	"copyhold/api"
	"copyhold/code"
	"copyhold/token"
)

const example = "func 0 () -> (int) { block 0 () { num 5; ret (0); } }"

func intType() api.Type       { return api.Type{Kind: api.TInt} }
func handleOf(r int) api.Type { return api.Type{Kind: api.THandle, R: r} }
func arrayAt(r int) api.Type  { return api.Type{Kind: api.TArray, R: r} }

func tupleAt(r int, fields ...api.Type) api.Type {
	return api.Type{Kind: api.TTuple, R: r, L: fields}
}

// short keeps what a test tells to a line.
func short(s string) string {
	if len(s) > 400 {
		return fmt.Sprintf("%q and %d more", s[:400], len(s)-400)
	}
	return strconv.Quote(s)
}

func wantModule(t *testing.T, src string, want api.Module) {
	t.Helper()
	got, fault := Parse(src)
	if fault != (api.Fault{}) {
		t.Errorf("Parse(%s): fault %v, want none", short(src), fault)
	} else if fmt.Sprintf("%+v", got) != fmt.Sprintf("%+v", want) {
		t.Errorf("Parse(%s) = %+v, want %+v", short(src), got, want)
	}
}

func wantFault(t *testing.T, src string, code, at int) {
	t.Helper()
	got, fault := Parse(src)
	if want := (api.Fault{Code: code, At: at}); fault != want {
		t.Errorf("Parse(%s): fault %v, want %v", short(src), fault, want)
	}
	if !reflect.DeepEqual(got, api.Module{}) {
		t.Errorf("Parse(%s): a module beside a fault: %v", short(src), got)
	}
}

// wantAt: the fault's place is where @ stands, which is no part of the text.
func wantAt(t *testing.T, marked string, code int) {
	t.Helper()
	at := strings.Index(marked, "@")
	wantFault(t, strings.Replace(marked, "@", "", 1), code, at)
}

// only is a module of one function, of one block with this in it.
func only(block string) string { return "func 0 () -> () { block 0 () { " + block + " } }" }

func onlyBlock(b api.Block) api.Module {
	return api.Module{Funcs: []api.Func{{Blocks: []api.Block{b}}}}
}

// Ordinary texts

func TestTheExample(t *testing.T) {
	wantModule(t, example, api.Module{Funcs: []api.Func{{
		Results: []api.Type{intType()},
		Blocks:  []api.Block{{Code: []api.Ins{{Op: api.INum, N: 5}}, End: api.End{Op: api.ERet, Args: []int{0}}}},
	}}})
}

func TestModulesOfSeveralFunctions(t *testing.T) {
	one, module := only("ret ();"), onlyBlock(api.Block{End: api.End{Op: api.ERet}})
	for n := 1; n <= api.MaxFuncs; n++ {
		wantModule(t, strings.Repeat(one+" ", n), api.Module{Funcs: slices.Repeat(module.Funcs, n)})
		wantModule(t, strings.Repeat(one, n), api.Module{Funcs: slices.Repeat(module.Funcs, n)})
	}
	for _, n := range []int{api.MaxFuncs + 1, 100, 101, 102, 700} {
		wantFault(t, strings.Repeat(one+" ", n), api.ErrMany, -1)
	}
}

func TestNoFunction(t *testing.T) {
	for _, src := range []string{"", " ", "\n", " \t\r\n ", "#", "# func 0", "#\n#\n", " # a\n "} {
		wantFault(t, src, api.ErrMany, -1)
	}
}

func TestFieldsOfFunctionsAndBlocks(t *testing.T) {
	src := `func 0 () -> (int, int) { block 0 () { ret (0, 1); } }
func 3 (handle 2, int) -> (array 1) {
block 3 (handle 2, int) { in; jump 1 <0, 1, 2, 3> (0); }
block 4 (handle 3) { new; free 1; ret (7); }
}
func 1 () -> (tuple 0 ()) { block 1 () { ret (9); } }`
	wantModule(t, src, api.Module{Funcs: []api.Func{
		{Results: []api.Type{intType(), intType()}, Blocks: []api.Block{{End: api.End{Op: api.ERet, Args: []int{0, 1}}}}},
		{Regs: 3, Params: []api.Type{handleOf(2), intType()}, Results: []api.Type{arrayAt(1)}, Blocks: []api.Block{
			{Regs: 3, Params: []api.Type{handleOf(2), intType()}, Code: []api.Ins{{Op: api.IIn}}, End: api.End{Op: api.EJump, Yes: api.To{Block: 1, Regs: []int{0, 1, 2, 3}, Args: []int{0}}}},
			{Regs: 4, Params: []api.Type{handleOf(3)}, Code: []api.Ins{{Op: api.INew}, {Op: api.IFree, A: 1}}, End: api.End{Op: api.ERet, Args: []int{7}}},
		}},
		{Regs: 1, Results: []api.Type{tupleAt(0)}, Blocks: []api.Block{{Regs: 1, End: api.End{Op: api.ERet, Args: []int{9}}}}},
	}})
}

// eachIns has the text of an instruction of each kind, with another number in each field.
func eachIns() map[string]api.Ins {
	return map[string]api.Ins{
		"num 5":                  {Op: api.INum, N: 5},
		"num -5":                 {Op: api.INum, N: -5},
		"num 0":                  {Op: api.INum},
		"num 1000001":            {Op: api.INum, N: 1000001},
		"bin sub 11 12":          {Op: api.IBin, K: api.KSub, A: 11, B: 12},
		"new":                    {Op: api.INew},
		"free 13":                {Op: api.IFree, A: 13},
		"tuple 14 ()":            {Op: api.ITuple, A: 14},
		"tuple 14 (15)":          {Op: api.ITuple, A: 14, Args: []int{15}},
		"tuple 14 (15, 16, 15)":  {Op: api.ITuple, A: 14, Args: []int{15, 16, 15}},
		"get 17 3":               {Op: api.IGet, A: 17, K: 3},
		"set 18 4 19":            {Op: api.ISet, A: 18, K: 4, B: 19},
		"array 20 21":            {Op: api.IArray, A: 20, B: 21},
		"load 22 23":             {Op: api.ILoad, A: 22, B: 23},
		"store 24 25 26":         {Op: api.IStore, A: 24, B: 25, C: 26},
		"len 27":                 {Op: api.ILen, A: 27},
		"in":                     {Op: api.IIn},
		"out 28":                 {Op: api.IOut, A: 28},
		"call 0 <> ()":           {Op: api.ICall},
		"call 0 <29> ()":         {Op: api.ICall, Regs: []int{29}},
		"call 0 <> (30)":         {Op: api.ICall, Args: []int{30}},
		"call 0 <31,32> (33,34)": {Op: api.ICall, Regs: []int{31, 32}, Args: []int{33, 34}},
	}
}

func TestEachInstruction(t *testing.T) {
	ops := map[int]bool{}
	for text, x := range eachIns() {
		ops[x.Op] = true
		wantModule(t, only(text+"; ret ();"), onlyBlock(api.Block{Code: []api.Ins{x}, End: api.End{Op: api.ERet}}))
		wantModule(t, only("in; "+text+"; new; "+text+"; ret (1);"), onlyBlock(api.Block{Code: []api.Ins{{Op: api.IIn}, x, {Op: api.INew}, x}, End: api.End{Op: api.ERet, Args: []int{1}}}))
	}
	for op := api.INum; op <= api.ICall; op++ {
		if !ops[op] {
			t.Errorf("no instruction of the kind %d", op)
		}
	}
}

func TestCallsOfOtherFunctions(t *testing.T) {
	back := api.Block{End: api.End{Op: api.ERet}}
	src := only("call 1 <5> (6, 7); ret ();") + only("ret ();")
	first := api.Block{Code: []api.Ins{{Op: api.ICall, K: 1, Regs: []int{5}, Args: []int{6, 7}}}, End: back.End}
	wantModule(t, src, api.Module{Funcs: []api.Func{{Blocks: []api.Block{first}}, {Blocks: []api.Block{back}}}})
}

func TestEachArithmetic(t *testing.T) {
	for word, k := range map[string]int{"add": api.KAdd, "sub": api.KSub, "mul": api.KMul, "div": api.KDiv, "mod": api.KMod, "less": api.KLess, "eq": api.KEq, "and": api.KAnd, "xor": api.KXor} {
		wantModule(t, only("bin "+word+" 1 2; ret ();"), onlyBlock(api.Block{Code: []api.Ins{{Op: api.IBin, K: k, A: 1, B: 2}}, End: api.End{Op: api.ERet}}))
		if Kind(k) != word {
			t.Errorf("Kind(%d) = %q, want %q", k, Kind(k), word)
		}
	}
}

func TestEachEnd(t *testing.T) {
	for text, e := range map[string]api.End{
		"jump 0 <> ()":                          {Op: api.EJump},
		"jump 1 <2> (3)":                        {Op: api.EJump, Yes: api.To{Block: 1, Regs: []int{2}, Args: []int{3}}},
		"jump 2 <2, 3> (4, 5, 6)":               {Op: api.EJump, Yes: api.To{Block: 2, Regs: []int{2, 3}, Args: []int{4, 5, 6}}},
		"if 0 to 0 <> () else 0 <> ()":          {Op: api.EIf},
		"if 7 to 1 <8> (9) else 2 <10> (11)":    {Op: api.EIf, A: 7, Yes: api.To{Block: 1, Regs: []int{8}, Args: []int{9}}, No: api.To{Block: 2, Regs: []int{10}, Args: []int{11}}},
		"if 7 to 2 <8,9> () else 1 <> (10, 11)": {Op: api.EIf, A: 7, Yes: api.To{Block: 2, Regs: []int{8, 9}}, No: api.To{Block: 1, Args: []int{10, 11}}},
		"ret ()":                                {Op: api.ERet},
		"ret (12)":                              {Op: api.ERet, Args: []int{12}},
		"ret (12, 13, 12)":                      {Op: api.ERet, Args: []int{12, 13, 12}},
	} {
		back := api.Block{End: api.End{Op: api.ERet}}
		src := "func 0 () -> () { block 0 () { ret (); } block 0 () { " + text + "; } block 0 () { ret (); } }"
		wantModule(t, src, api.Module{Funcs: []api.Func{{Blocks: []api.Block{back, {End: e}, back}}}})
	}
}

func TestTypes(t *testing.T) {
	for text, list := range map[string][]api.Type{
		"":                        nil,
		"int":                     {intType()},
		"handle 1":                {handleOf(1)},
		"array 2":                 {arrayAt(2)},
		"tuple 3 ()":              {tupleAt(3)},
		"tuple 0 (int)":           {tupleAt(0, intType())},
		"int, int, int":           {intType(), intType(), intType()},
		"handle 1, handle 0, int": {handleOf(1), handleOf(0), intType()},
		"tuple 1 (int, handle 2, array 3, tuple 0 ()), int":               {tupleAt(1, intType(), handleOf(2), arrayAt(3), tupleAt(0)), intType()},
		"tuple 1 (tuple 2 (array 1), tuple 3 (tuple 0 (int)), int)":       {tupleAt(1, tupleAt(2, arrayAt(1)), tupleAt(3, tupleAt(0, intType())), intType())},
		"tuple 0 (tuple 1 (tuple 2 (tuple 3 (int, handle 1)))), array 0":  {tupleAt(0, tupleAt(1, tupleAt(2, tupleAt(3, intType(), handleOf(1))))), arrayAt(0)},
		"tuple 0 (tuple 1 (tuple 2 (tuple 3 (tuple 0 ())))), tuple 1 ()":  {tupleAt(0, tupleAt(1, tupleAt(2, tupleAt(3, tupleAt(0))))), tupleAt(1)},
		"int, handle 0, array 0, int, handle 1, array 1, int, tuple 2 ()": {intType(), handleOf(0), arrayAt(0), intType(), handleOf(1), arrayAt(1), intType(), tupleAt(2)},
	} {
		back := api.End{Op: api.ERet}
		main := onlyBlock(api.Block{End: back}).Funcs[0]
		own := api.Func{Regs: 4, Blocks: []api.Block{{Regs: 4, End: back}, {Regs: 5, Params: list, End: back}}}
		wantModule(t, only("ret ();")+" func 4 () -> () { block 4 () { ret (); } block 5 ("+text+") { ret (); } }", api.Module{Funcs: []api.Func{main, own}})
		own = api.Func{Regs: 4, Results: list, Blocks: []api.Block{{Regs: 4, End: back}}}
		wantModule(t, only("ret ();")+" func 4 () -> ("+text+") { block 4 () { ret (); } }", api.Module{Funcs: []api.Func{main, own}})
		own = api.Func{Regs: 4, Params: list, Blocks: []api.Block{{Regs: 4, Params: list, End: back}}}
		wantModule(t, only("ret ();")+" func 4 ("+text+") -> () { block 4 ("+text+") { ret (); } }", api.Module{Funcs: []api.Func{main, own}})
	}
}

func TestBlanksAndRemarks(t *testing.T) {
	want, fault := Parse(strings.Join(fully(), " "))
	if fault.Code != 0 {
		t.Fatal(fault)
	}
	for _, gap := range []string{" ", "\t", "\r", "\n", "  \t\t\r\r\n\n", "\r\n", "#\n", " # remark; (\n", "#a\n#b\n\t", "#1\n\n#2\n"} {
		src := strings.Join(fully(), gap)
		for _, text := range []string{src, gap + src, src + gap, gap + src + gap, src + "#", src + "# func 0"} {
			wantModule(t, text, want)
		}
	}
	wantModule(t, tight(fully()), want)
	wantModule(t, "func0()->(int){block0(){num5;ret(0);}}", onlyExample(t))
	wantModule(t, "func0()->(int){block0(){num-5;ret(0);}}", api.Module{Funcs: []api.Func{{Results: []api.Type{intType()}, Blocks: []api.Block{{Code: []api.Ins{{Op: api.INum, N: -5}}, End: api.End{Op: api.ERet, Args: []int{0}}}}}}})
}

func onlyExample(t *testing.T) api.Module {
	t.Helper()
	m, fault := Parse(example)
	if fault.Code != 0 {
		t.Fatal(fault)
	}
	return m
}

func TestWordsThatNeedABlank(t *testing.T) {
	wantAt(t, "@funcfunc 0", api.ErrForm)
	wantAt(t, "func 0 () -> () { block 0 () { if 0 to 0 <> () @elseif 0 <> (); } }", api.ErrForm)
	wantAt(t, "func 0 () -> () { block 0 () { @binadd 0 0; ret (); } }", api.ErrForm)
	wantAt(t, "func 0 () -> () { block 0 () { bin add @00; ret (); } }", api.ErrNumber)
	wantAt(t, "func 0 () -> () { block 0 () { bin add 12@; ret (); } }", api.ErrForm)
	wantAt(t, "func 0 () -> () { block 0 () { bin add 1@-2; ret (); } }", api.ErrNumber)
	wantAt(t, "func 0 () @- > () { }", api.ErrText)
}

// Op and Kind

func TestOp(t *testing.T) {
	wantWords(t, "Op", Op, "num bin new free tuple get set array load store len in out call")
}

func TestKind(t *testing.T) {
	wantWords(t, "Kind", Kind, "add sub mul div mod less eq and xor")
}

// wantWords: the words stand in the order of their kinds, from 1 on, and no other number has one.
func wantWords(t *testing.T, name string, word func(k int) string, all string) {
	t.Helper()
	words := strings.Fields(all)
	for k := -5; k <= 300; k++ {
		want := ""
		if 1 <= k && k <= len(words) {
			want = words[k-1]
		}
		if got := word(k); got != want {
			t.Errorf("%s(%d) = %q, want %q", name, k, got, want)
		}
	}
}

func TestOpAndKindOfWildNumbers(t *testing.T) {
	for _, k := range []int{math.MinInt, math.MinInt + 1, math.MaxInt, -1 << 32, 1 << 32, 1<<32 + 1, 1<<16 + 1, 256 + 1, -255, 1<<63 - 2} {
		if Op(k) != "" || Kind(k) != "" {
			t.Errorf("Op(%d) = %q, Kind(%d) = %q", k, Op(k), k, Kind(k))
		}
	}
}

// NUM and LONG

// numPlaces are the tokens of fully at which a NUM stands.
func numPlaces() []int {
	var places []int
	for i, text := range fully() {
		if _, err := strconv.Atoi(text); err == nil && fully()[i-1] != "num" {
			places = append(places, i)
		}
	}
	return places
}

func TestTheGreatestAndTheLeastNum(t *testing.T) {
	for _, i := range numPlaces() {
		for _, text := range []string{"0", "1", "999999", "1000000"} {
			tokens := fully()
			tokens[i] = text
			src, _ := placed(tokens)
			scanned, _ := token.Scan(src)
			m, fault := read(scanned, len(src))
			if fault.Code != 0 || !slices.Equal(written(m), tokens) {
				t.Errorf("%s at the token %d: fault %v, read as %v", text, i, fault, written(m))
			}
			if want := code.Check(m); want.Code != 0 {
				wantFault(t, src, want.Code, want.At)
			} else {
				wantModule(t, src, m)
			}
		}
	}
	for _, n := range []int{0, 1000000} {
		wantModule(t, only(fmt.Sprint("store ", n, " ", n, " ", n, "; ret (", n, ");")), onlyBlock(api.Block{Code: []api.Ins{{Op: api.IStore, A: n, B: n, C: n}}, End: api.End{Op: api.ERet, Args: []int{n}}}))
	}
}

func TestNumbersThatAreNoNum(t *testing.T) {
	if len(numPlaces()) < 50 {
		t.Fatalf("%d places", len(numPlaces()))
	}
	for _, i := range numPlaces() {
		for _, text := range []string{"-1", "1000001", "1000002", "-1000000", "4294967296", "4294967297", "-4294967296", "9223372036854775807", "-9223372036854775808"} {
			tokens := fully()
			tokens[i] = text
			src, at := placed(tokens)
			wantFault(t, src, api.ErrNumber, at[i])
			wantFault(t, src[:at[i]+len(text)], api.ErrNumber, at[i])
		}
	}
}

func TestLong(t *testing.T) {
	for _, n := range []int64{0, 1, -1, 1000000, 1000001, -1000001, math.MaxInt32, math.MaxInt32 + 1, math.MaxInt64, math.MaxInt64 - 1, math.MinInt64, math.MinInt64 + 1} {
		wantModule(t, only(fmt.Sprint("num ", n, "; ret ();")), onlyBlock(api.Block{Code: []api.Ins{{Op: api.INum, N: n}}, End: api.End{Op: api.ERet}}))
	}
	wantAt(t, only("num @9223372036854775808; ret ();"), api.ErrNumber)
	wantAt(t, only("num @-9223372036854775809; ret ();"), api.ErrNumber)
	wantAt(t, only("num @add; ret ();"), api.ErrForm)
	wantAt(t, only("num @; ret ();"), api.ErrForm)
	wantAt(t, only("num 5 @5; ret ();"), api.ErrForm)
}

func TestANumberWhereNoNumStandsIsOfNoForm(t *testing.T) {
	for _, n := range []string{"0", "-1", "1000001"} {
		for _, marked := range []string{"@N", "func 0 @N", "func 0 (@N", "func 0 () @N", "func 0 () -> (int @N", "func 0 () -> () @N", "func 0 () -> () { @N", "func 0 () -> () { } @N", "func 0 () -> () { block 0 () { @N", "func 0 () -> () { block 0 () { bin @N", "func 0 () -> () { block 0 () { new @N", "func 0 () -> () { block 0 () { ret (0 @N", "func 0 () -> () { block 0 () { if 0 @N"} {
			wantAt(t, strings.Replace(marked, "N", n, 1), api.ErrForm)
		}
	}
}

// How deep, how many

// typesPlaces are texts with % where a list of types stands.
func typesPlaces() []string {
	main := only("ret ();")
	return []string{
		main + "func 1 (%) -> () { block 1 (int) { ret (); } }",
		main + "func 1 () -> (%) { block 1 () { ret (); } }",
		main + "func 1 () -> () { block 1 () { ret (); } block 1 (%) { ret (); } }",
		main + "func 1 () -> (int, tuple 0 (%), int) { block 1 () { ret (); } }",
	}
}

// deep is how many types stand around the list of a place.
func deep(place string) int { return strings.Count(place, "tuple") }

func put(place, list string) string { return strings.Replace(place, "%", list, 1) }

func TestTypesThatStandInMaxNestedOthers(t *testing.T) {
	for text, inner := range map[string][]api.Type{"int": {intType()}, "handle 0": {handleOf(0)}, "array 0": {arrayAt(0)}, "tuple 0 ()": {tupleAt(0)}, "int, tuple 0 (), int": {intType(), tupleAt(0), intType()}} {
		list := inner
		for range api.MaxNested {
			list = []api.Type{handleOf(0), tupleAt(0, list...)}
		}
		src := strings.Repeat("handle 0, tuple 0 (", api.MaxNested) + text + strings.Repeat(")", api.MaxNested)
		m := onlyBlock(api.Block{End: api.End{Op: api.ERet}})
		m.Funcs = append(m.Funcs, api.Func{Regs: 1, Results: list, Blocks: []api.Block{{Regs: 1, End: api.End{Op: api.ERet}}}})
		wantModule(t, put(typesPlaces()[1], src), m)
		for _, place := range typesPlaces()[:3] {
			if _, fault := Parse(put(place, src)); fault.Code == api.ErrDeep {
				t.Errorf("%s: %v", src, fault)
			}
		}
	}
}

func TestTypesThatStandInMoreThanMaxNestedOthers(t *testing.T) {
	for _, place := range typesPlaces() {
		for more := range 4 {
			for _, inner := range []string{"int", "handle 0", "array 0", "tuple 0 ()", "int, int", "handle -1", "array", "tuple int", "int int"} {
				for _, open := range []string{"tuple 0 (", "int, tuple 0 ("} {
					ahead := strings.Repeat(open, api.MaxNested+1-deep(place))
					list := ahead + "@" + strings.Repeat(open, more) + inner + strings.Repeat(")", api.MaxNested+1+more)
					wantAt(t, put(place, list), api.ErrDeep)
				}
			}
		}
		wantAt(t, put(place, strings.Repeat("tuple 0 (", api.MaxNested+1-deep(place))+"@"+strings.Repeat("tuple 0 (", 3000)), api.ErrDeep)
	}
}

func TestWhereATypeIsTooDeepOthersAreOfNoForm(t *testing.T) {
	ahead := "func 0 (" + strings.Repeat("tuple 0 (", api.MaxNested+1)
	for _, other := range []string{"mow", "5", "-1", "(", "<", ",", ";", "new", "->"} {
		wantAt(t, ahead+"@"+other+" )", api.ErrForm)
	}
	wantAt(t, ahead+"@", api.ErrShort)
	wantAt(t, ahead+" # \n@", api.ErrShort)
	wantAt(t, ahead+strings.Repeat(")", api.MaxNested+2)+"@", api.ErrShort)
	wantAt(t, ahead+strings.Repeat(")", api.MaxNested+2)+"@;", api.ErrForm)
}

// listPlaces are texts with % where a list stands, with one thing of it, and with the fault that code.Check has where it has a hundred.
type listPlace struct {
	text, thing string
	fault       api.Fault
}

func listPlaces() []listPlace {
	main := only("ret ();")
	many := func(at int) api.Fault { return api.Fault{Code: api.ErrMany, At: at} }
	return []listPlace{
		{main + "func 0 (%) -> () { block 0 () { ret (); } }", "int", many(code.FuncAt(1))},
		{main + "func 1 () -> (%) { block 1 () { ret (); } }", "tuple 0 (handle 0)", many(code.FuncAt(1))},
		{"func 0 () -> () { block 0 () { ret (); } block 1 (%) { ret (); } }", "handle 0", many(code.BlockAt(0, 1))},
		{main + "func 1 (tuple 0 (%)) -> () { block 1 () { ret (); } }", "array 0", many(code.FuncAt(1))},
		{main + "func 1 (int, tuple 0 (int, tuple 0 (%))) -> () { block 1 () { ret (); } }", "tuple 0 ()", many(code.FuncAt(1))},
		{only("in; tuple 0 (%); ret ();"), "0", many(code.InsAt(0, 0, 1))},
		{only("call 0 <%> (); ret ();"), "17", many(code.InsAt(0, 0, 0))},
		{only("in; new; call 0 <0> (%); ret ();"), "1000000", many(code.InsAt(0, 0, 2))},
		{only("jump 0 <%> (1);"), "2", many(code.EndAt(0, 0))},
		{only("jump 0 <1> (%);"), "3", many(code.EndAt(0, 0))},
		{only("if 0 to 0 <%> () else 0 <> ();"), "4", many(code.EndAt(0, 0))},
		{only("if 0 to 0 <> (%) else 0 <> ();"), "5", many(code.EndAt(0, 0))},
		{only("if 0 to 0 <> () else 0 <%> ();"), "6", many(code.EndAt(0, 0))},
		{only("if 0 to 0 <> () else 0 <> (%);"), "7", many(code.EndAt(0, 0))},
		{only("ret (%);"), "8", many(code.EndAt(0, 0))},
	}
}

func things(thing string, n int) string {
	return strings.Join(slices.Repeat([]string{thing}, n), ", ")
}

func TestAHundredThingsInBrackets(t *testing.T) {
	for _, p := range listPlaces() {
		for _, n := range []int{99, 100} {
			wantFault(t, put(p.text, things(p.thing, n)), p.fault.Code, p.fault.At)
		}
	}
}

func TestMoreThanAHundredThingsInBrackets(t *testing.T) {
	for _, p := range listPlaces() {
		wantAt(t, put(p.text, things(p.thing, 101)+"@"), api.ErrMany)
		wantAt(t, put(p.text, things(p.thing, 101)+" #\n @"), api.ErrMany)
		for _, more := range []int{1, 2, 200} {
			wantAt(t, put(p.text, things(p.thing, 101)+" @, "+things(p.thing, more)), api.ErrMany)
		}
	}
}

func TestWhatStandsBehindTheHundredAndFirst(t *testing.T) {
	for _, p := range listPlaces() {
		ahead, _, _ := strings.Cut(p.text, "%")
		for _, other := range []string{",", ")", ">", "(", ";", "}", "mow", "int", "5", "-1", "1000001", "func"} {
			wantAt(t, ahead+things(p.thing, 101)+" @"+other, api.ErrMany)
			wantAt(t, ahead+things(p.thing, 101)+" @"+other+" mow", api.ErrMany)
		}
		wantAt(t, ahead+things(p.thing, 101)+"@", api.ErrShort)
		wantAt(t, ahead+things(p.thing, 101)+" # end\n@", api.ErrShort)
		wantAt(t, ahead+things(p.thing, 100)+"@", api.ErrShort)
		wantAt(t, ahead+things(p.thing, 100)+", @", api.ErrShort)
		wantAt(t, ahead+things(p.thing, 100)+", @mow", api.ErrForm)
		wantAt(t, ahead+things(p.thing, 100)+" @mow", api.ErrForm)
		wantAt(t, ahead+things(p.thing, 100)+", @;", api.ErrForm)
	}
}

// What stands in braces is no list in brackets: code.Check alone counts it.
func TestManyBlocksAndInstructions(t *testing.T) {
	for _, n := range []int{api.MaxBlocks + 1, 100, 101, 102, 500} {
		wantFault(t, "func 0 () -> () { "+strings.Repeat("block 0 () { ret (); } ", n)+"}", api.ErrMany, 9999)
	}
	for _, n := range []int{api.MaxCode + 1, 100, 101, 102, 5000} {
		wantFault(t, only(strings.Repeat("in; ", n)+"ret ();"), api.ErrMany, 90)
	}
	blocks := slices.Repeat([]api.Block{{Code: slices.Repeat([]api.Ins{{Op: api.IIn}}, api.MaxCode), End: api.End{Op: api.ERet}}}, api.MaxBlocks)
	wantModule(t, "func 0 () -> () { "+strings.Repeat("block 0 () { "+strings.Repeat("in; ", api.MaxCode)+"ret (); } ", api.MaxBlocks)+"}", api.Module{Funcs: []api.Func{{Blocks: blocks}}})
}

func TestListsThatAreNoneOfTheKind(t *testing.T) {
	for _, p := range listPlaces() {
		ahead, behind, _ := strings.Cut(p.text, "%")
		wantAt(t, ahead+"@, "+p.thing+behind, api.ErrForm)
		wantAt(t, ahead+p.thing+", @"+behind, api.ErrForm)
		wantAt(t, ahead+p.thing+", @, "+p.thing+behind, api.ErrForm)
		wantAt(t, ahead+p.thing+" @"+p.thing+behind, api.ErrForm)
		wantAt(t, ahead+p.thing+" @; "+p.thing+behind, api.ErrForm)
		wrong := strings.NewReplacer(")", ">", ">", ")").Replace(behind[:1])
		wantAt(t, ahead+"@"+wrong+behind[1:], api.ErrForm)
		wantAt(t, ahead+p.thing+"@"+wrong+behind[1:], api.ErrForm)
	}
}

// Where a text ends, where it goes on

func TestTextsThatEndBehindEachToken(t *testing.T) {
	tokens := fully()
	whole, at := placed(tokens)
	second := slices.Index(tokens[1:], "func") + 1
	for i := range tokens {
		text := whole[:at[i]]
		if i == 0 || i == second {
			continue // a module, but for what code.Check says
		}
		for _, behind := range []string{"", " ", "\n\n", "#", " # } } }", "\t#\n"} {
			src := strings.TrimSuffix(text, " ") + behind
			wantFault(t, src, api.ErrShort, len(src))
		}
	}
	wantFault(t, whole[:at[second]], api.ErrRange, code.InsAt(0, 0, 15))
}

func TestTextsThatGoOnBehindAModule(t *testing.T) {
	for _, word := range vocabulary() {
		if word != "func" {
			wantAt(t, example+"@"+word, api.ErrForm)
			wantAt(t, example+" # more\n @"+word+" "+example, api.ErrForm)
			wantAt(t, "@"+word+" "+example, api.ErrForm)
		}
	}
	wantAt(t, example+"func@", api.ErrShort)
	wantAt(t, example+"func @func", api.ErrForm)
}

// Wrong texts

func TestWordsThatAreNone(t *testing.T) {
	for _, word := range []string{"mow", "adds", "ad", "greater", "num", "int", "or", "not", "bin", "x"} {
		wantAt(t, only("bin @"+word+" 0 0; ret ();"), api.ErrForm)
	}
	for _, word := range []string{"mow", "nums", "nu", "int", "handle", "add", "to", "else", "block", "func", "return", "x"} {
		wantAt(t, only("@"+word+" 0 0; ret ();"), api.ErrForm)
		wantAt(t, only("in; @"+word+" 0 0; ret ();"), api.ErrForm)
		wantAt(t, only("in; @"+word), api.ErrForm)
	}
	for _, word := range []string{"mow", "ints", "in", "handles", "num", "region", "x", "block"} {
		for _, place := range typesPlaces() {
			wantAt(t, put(place, "@"+word), api.ErrForm)
			wantAt(t, put(place, "@"+word+" 0"), api.ErrForm)
			wantAt(t, put(place, "int, @"+word+" 0"), api.ErrForm)
			wantAt(t, put(place, "tuple 0 (int, @"+word+" 0"), api.ErrForm)
		}
	}
}

func TestSmallThingsThatAreWrong(t *testing.T) {
	for _, marked := range []string{
		"func @()", "func 0 @->", "func 0 () @{", "func 0 () -> @{", "func 0 () -> () @block", "func 0 () -> () { @func", "func 0 () @-5 ()",
		"func 0 (int @0)", "func 0 (handle @)", "func 0 (handle @int)", "func 0 (array 0 @0)", "func 0 (tuple @()", "func 0 (tuple 0 @)", "func 0 (tuple 0 @int", "func 0 @<>", "func 0 (handle 0 @())",
		only("@}"), only("@;"), only("new @ret ();"), only("new; @;"), only("new; @}"), only("ret () @}"), only("ret (); @ret ();"), only("ret (); @new;"), only("ret @;"), only("ret @0;"), only("ret @<>;"), only("ret () @();"),
		only("new @0; ret ();"), only("in @0; ret ();"), only("free @; ret ();"), only("free 0 @0; ret ();"), only("len @(0); ret ();"), only("out @x; ret ();"), only("get 0 @; ret ();"), only("get 0 0 @0; ret ();"), only("set 0 0 @; ret ();"), only("store 0 0 @; ret ();"), only("store 0 0 0 @0; ret ();"),
		only("tuple 0 @; ret ();"), only("tuple @(); ret ();"), only("tuple 0 @<>; ret ();"), only("call 0 @(); ret ();"), only("call 0 <> @; ret ();"), only("call 0 <> @<>; ret ();"), only("call @<> (); ret ();"), only("bin @0 0; ret ();"), only("bin add 0 @; ret ();"), only("bin add @add 0; ret ();"), only("array 0 @; ret ();"), only("load 0 @(0); ret ();"),
		only("jump @<> ();"), only("jump 0 @();"), only("jump 0 <> @;"), only("jump 0 <> () @else"), only("jump @to 0 <> ();"), only("if @to"), only("if 0 @0 <> ()"), only("if 0 to @to"), only("if 0 to 0 <> () @;"), only("if 0 to 0 <> () @to"), only("if 0 to 0 <> () else @;"), only("if 0 to 0 <> () else 0 <> () @else"), only("if 0 to 0 <> @else"),
	} {
		wantAt(t, marked, api.ErrForm)
	}
}

func TestFaultsOfTokens(t *testing.T) {
	for marked, c := range map[string]int{
		"@A": api.ErrText, "func 0 @[]": api.ErrText, "func 0 () @- > ()": api.ErrText, "func 0 () @= ()": api.ErrText, "func @_": api.ErrText, "func @\x00": api.ErrText, "func @\xff": api.ErrText,
		"func @00": api.ErrNumber, "func @-0": api.ErrNumber, "func @01": api.ErrNumber, "func @9223372036854775808": api.ErrNumber,
		example + "@'": api.ErrText, example + "\n@é": api.ErrText,
		"mow ) ) func -1 @007": api.ErrNumber, "func -1 @!": api.ErrText, "func 0 ( @. tuple tuple": api.ErrText, "func 0 (" + strings.Repeat("tuple 0 (", 9) + " @A": api.ErrText, only("ret (" + things("0", 200) + " @:);"): api.ErrText,
	} {
		wantAt(t, marked, c)
	}
}

func TestHowLongATextMayBe(t *testing.T) {
	for _, n := range []int{api.MaxText - 1, api.MaxText} {
		wantModule(t, example+strings.Repeat(" ", n-len(example)), onlyExample(t))
		wantModule(t, strings.Repeat("\n", n-len(example))+example, onlyExample(t))
		wantModule(t, example+"#"+strings.Repeat("A", n-len(example)-1), onlyExample(t))
		wantFault(t, "func"+strings.Repeat(" ", n-4), api.ErrShort, n)
	}
	for _, n := range []int{api.MaxText + 1, api.MaxText + 2, 3 * api.MaxText} {
		wantFault(t, example+strings.Repeat(" ", n-len(example)), api.ErrMany, api.MaxText)
		wantFault(t, "A mow 00"+strings.Repeat(" ", n-8), api.ErrMany, api.MaxText)
		wantFault(t, strings.Repeat("(", n), api.ErrMany, api.MaxText)
	}
}

func TestTheFirstOfTwoFaultsIsTold(t *testing.T) {
	for marked, c := range map[string]int{
		"func @-1 () () ()":                              api.ErrNumber,
		"func @mow -1":                                   api.ErrForm,
		"func @1000001":                                  api.ErrNumber,
		"func 0 (handle @-1":                             api.ErrNumber,
		"func 0 (@mow 0, handle -1":                      api.ErrForm,
		"func 0 (handle @-1, mow":                        api.ErrNumber,
		"func 99 () -> () { } @mow":                      api.ErrForm,
		"func 99 () -> () { block @-1":                   api.ErrNumber,
		"func 0 () -> () { }@}":                          api.ErrForm,
		only("get 0 99; call 9 <> () @)"):                api.ErrForm,
		only("jump 77 <> (); @new"):                      api.ErrForm,
		only("jump 77 <> (@-7, mow);"):                   api.ErrNumber,
		only("bin @mow -1 -1; ret (-1);"):                api.ErrForm,
		only("bin add @-1 mow; ret (-1);"):               api.ErrNumber,
		only("ret ("+things("0", 101)+"@, -1);") + "mow": api.ErrMany,
		only("ret (@-1, " + things("0", 101) + ");"):     api.ErrNumber,
		only("ret (" + things("0", 100) + ", @-1);"):     api.ErrNumber,
		only("ret (" + things("0", 100) + ", @x);"):      api.ErrForm,
		"func 0 (" + things("int", 101) + "@, " + strings.Repeat("tuple 0 (", 9):      api.ErrMany,
		"func 0 (" + strings.Repeat("tuple 0 (", 5) + "@" + things("int", 101) + ")":  api.ErrDeep,
		"func 0 (" + strings.Repeat("tuple 0 (", 4) + things("int", 101) + "@))))) (": api.ErrMany,
		"func 0 (" + strings.Repeat("tuple 0 (", 5) + "@handle -1":                    api.ErrDeep,
		"func 0 (" + strings.Repeat("tuple 0 (", 4) + "tuple @-1 (int":                api.ErrNumber,
	} {
		wantAt(t, marked, c)
	}
}

// What code.Check refuses

func TestModulesThatCheckRefuses(t *testing.T) {
	main := only("ret ();")
	for src, want := range map[string]api.Fault{
		"func 0 () -> () { }":                                                            {Code: api.ErrMany, At: 9999},
		"func 7 () -> () { block 7 () { ret (); } }":                                     {Code: api.ErrRange, At: 9999},
		"func 1 () -> () { block 1 () { ret (); } }":                                     {Code: api.ErrMain, At: 9999},
		"func 0 (int) -> () { block 0 (int) { ret (); } }":                               {Code: api.ErrMain, At: 9999},
		"func 0 () -> (handle 0) { block 0 () { ret (); } }":                             {Code: api.ErrRange, At: 9999},
		main + "func 0 () -> () { }":                                                     {Code: api.ErrMany, At: 19999},
		main + "func 1000000 () -> () { }":                                               {Code: api.ErrRange, At: 19999},
		main + "func 1 (array 1) -> () { }":                                              {Code: api.ErrRange, At: 19999},
		main + "func 1 (" + things("int", 9) + ") -> () { }":                             {Code: api.ErrMany, At: 19999},
		main + "func 1 () -> (" + things("int", 9) + ") { }":                             {Code: api.ErrMany, At: 19999},
		main + "func 1 () -> (tuple 0 (" + things("int", 9) + ")) { }":                   {Code: api.ErrMany, At: 19999},
		"func 0 () -> () { block 1 () { ret (); } }":                                     {Code: api.ErrType, At: 90},
		"func 0 () -> () { block 17 () { ret (); } }":                                    {Code: api.ErrRange, At: 90},
		"func 0 () -> () { block 0 (int) { ret (); } }":                                  {Code: api.ErrType, At: 90},
		"func 0 () -> () { block 0 (handle 0) { ret (); } }":                             {Code: api.ErrRange, At: 90},
		main + "func 1 () -> () { block 1 () { ret (); } block 0 () { ret (); } }":       {Code: api.ErrRange, At: 10190},
		only("get 0 8; ret ();"):                                                         {Code: api.ErrRange, At: 0},
		only("in; get 0 7; set 0 8 0; ret ();"):                                          {Code: api.ErrRange, At: 2},
		only("tuple 0 (" + things("0", 9) + "); ret ();"):                                {Code: api.ErrMany, At: 0},
		only("in; call 1 <> (); ret ();"):                                                {Code: api.ErrRange, At: 1},
		only("call 0 <" + things("0", 7) + "> (); ret ();"):                              {Code: api.ErrMany, At: 0},
		only("call 0 <> (" + things("0", 9) + "); ret ();"):                              {Code: api.ErrMany, At: 0},
		main + only("in; new; call 2 <> (); ret ();"):                                    {Code: api.ErrRange, At: 10002},
		only("jump 1 <> ();"):                                                            {Code: api.ErrRange, At: 91},
		only("jump 0 <" + things("0", 17) + "> ();"):                                     {Code: api.ErrMany, At: 91},
		only("if 0 to 0 <> () else 1000000 <> ();"):                                      {Code: api.ErrRange, At: 91},
		only("if 0 to 0 <> (" + things("0", 9) + ") else 0 <> ();"):                      {Code: api.ErrMany, At: 91},
		only("ret (" + things("0", 9) + ");"):                                            {Code: api.ErrMany, At: 91},
		main + "func 0 () -> () { block 0 () { ret (); } block 0 () { jump 2 <> (); } }": {Code: api.ErrRange, At: 10191},
	} {
		wantFault(t, src, want.Code, want.At)
	}
}

// What verify alone looks at is let by: values and regions that are none, types that don't fit.
func TestModulesThatCheckLetsBy(t *testing.T) {
	wantModule(t, only("free 999; out 1000000; ret (5);"), onlyBlock(api.Block{Code: []api.Ins{{Op: api.IFree, A: 999}, {Op: api.IOut, A: 1000000}}, End: api.End{Op: api.ERet, Args: []int{5}}}))
	wantModule(t, only("jump 0 <5, 5> (6, 6);"), onlyBlock(api.Block{End: api.End{Op: api.EJump, Yes: api.To{Regs: []int{5, 5}, Args: []int{6, 6}}}}))
}

// P1, and what holds everywhere

func TestAnyBytes(t *testing.T) {
	for seed := range int64(5000) {
		r := rand.New(rand.NewSource(seed))
		src := make([]byte, r.Intn(60))
		for i := range src {
			src[i] = byte(r.Intn(256))
		}
		m, fault := Parse(string(src))
		if fault.Code == 0 || len(m.Funcs) != 0 {
			t.Errorf("Parse(%q) = %v, %v", src, m, fault)
		}
		text := []byte(example)
		text[r.Intn(len(text))] = byte(r.Intn(256))
		if _, fault := token.Scan(string(text)); fault.Code != 0 {
			wantFault(t, string(text), fault.Code, fault.At)
		} else {
			newPlain().hold(t, string(text))
		}
	}
}

func TestLongTextsEnd(t *testing.T) {
	for _, part := range []string{"(", ")", "{", "<", ",", ";", "->", "func ", "0 ", "in;", "func 0 (", "tuple 0 (", "func 0()->(){}", "block 0 (){", "int,"} {
		for _, ahead := range []string{"", "func 0 (", "func 0 (int,", "func 0 () -> () { ", "func 0 () -> () { block 0 () { ", "func 0 () -> () { block 0 () { ret ("} {
			src := ahead + strings.Repeat(part, (api.MaxText-len(ahead))/len(part))
			if _, fault := Parse(src); fault.Code == 0 {
				t.Errorf("%s is a module", short(src))
			}
		}
	}
}

func TestAnswersHangOnTheTextAlone(t *testing.T) {
	for seed := range int64(300) {
		r := rand.New(rand.NewSource(seed))
		src := spread(r, written(anyModule(r)))
		other := spread(r, changed(r, written(anyModule(r))))
		first, fault := Parse(src)
		ahead := fmt.Sprint(first, fault)
		Parse(other)
		again, _ := Parse(src)
		if fmt.Sprint(again, fault) != ahead {
			t.Errorf("seed %d: another answer", seed)
		}
		spoil(again)
		if fmt.Sprint(first, fault) != ahead {
			t.Errorf("seed %d: two answers share memory", seed)
		}
		if third, _ := Parse(src); fmt.Sprint(third, fault) != ahead {
			t.Errorf("seed %d: an answer is kept", seed)
		}
	}
}

// spoil writes over all lists of a module, and over what lies behind their lengths.
func spoil(m api.Module) {
	for _, list := range lists(reflect.ValueOf(&m).Elem()) {
		for i := range list.Cap() {
			list.Slice(0, list.Cap()).Index(i).SetZero()
		}
	}
}

// lists are all slices in a value that have memory, inner ones first.
func lists(v reflect.Value) []reflect.Value {
	var all []reflect.Value
	switch v.Kind() {
	case reflect.Struct:
		for i := range v.NumField() {
			all = append(all, lists(v.Field(i))...)
		}
	case reflect.Slice:
		for i := range v.Len() {
			all = append(all, lists(v.Index(i))...)
		}
		if v.Cap() > 0 {
			all = append(all, v)
		}
	}
	return all
}

func TestNoTwoListsShareMemory(t *testing.T) {
	modules := []string{strings.Join(fully(), " ")}
	for seed := range int64(200) {
		modules = append(modules, strings.Join(written(anyModule(rand.New(rand.NewSource(seed)))), " "))
	}
	for _, src := range modules {
		m, fault := Parse(src)
		if fault.Code != 0 {
			t.Fatalf("%s: %v", short(src), fault)
		}
		all := lists(reflect.ValueOf(&m).Elem())
		slices.SortFunc(all, func(a, b reflect.Value) int { return int(a.Pointer()) - int(b.Pointer()) })
		for i := 1; i < len(all); i++ {
			a := all[i-1]
			if a.Pointer()+uintptr(a.Cap())*a.Type().Elem().Size() > all[i].Pointer() {
				t.Errorf("%s: two lists share memory", short(src))
			}
		}
	}
}
