package code

import (
	"fmt"
	"math/rand"
	"reflect"
	"testing"

	"copyhold/api"
	"copyhold/types"
)

// full is a module with something in every field of everything, whether it may stand there or not.
func full() api.Module {
	deep := func(n int) []api.Type {
		return []api.Type{{Kind: n, R: n + 1, L: []api.Type{{Kind: n + 2, R: n + 3, L: []api.Type{{Kind: 1, R: n}}}, {Kind: n + 4}}}, {Kind: n + 5, R: 1}}
	}
	to := func(n int) api.To { return api.To{Block: n, Regs: []int{n + 1, n + 2}, Args: []int{n + 3, n + 4}} }
	code := func(n int) []api.Ins {
		return []api.Ins{
			{Op: n, A: n + 1, B: n + 2, C: n + 3, K: n + 4, N: int64(n + 5), Regs: []int{n, n + 6}, Args: []int{n, n + 7}},
			{Op: n + 1, Args: []int{1}},
		}
	}
	end := func(n int) api.End {
		return api.End{Op: n, A: n + 1, Yes: to(n + 2), No: to(n + 3), Args: []int{n, n + 4}}
	}
	m := api.Module{}
	for f := range 2 {
		m.Funcs = append(m.Funcs, api.Func{Regs: f + 1, Params: deep(f + 2), Results: deep(f + 3), Blocks: []api.Block{
			{Regs: f + 4, Params: deep(f + 5), Code: code(f + 6), End: end(f + 7)},
			{Regs: f + 8, Params: deep(f + 9), Code: code(f + 10), End: end(f + 11)},
		}})
	}
	return m
}

// eachNumber and eachList go through all that a thing is made of.
func eachNumber(v reflect.Value, visit func(v reflect.Value)) {
	switch v.Kind() {
	case reflect.Slice:
		for i := range v.Len() {
			eachNumber(v.Index(i), visit)
		}
	case reflect.Struct:
		for i := range v.NumField() {
			eachNumber(v.Field(i), visit)
		}
	default:
		visit(v)
	}
}

func eachList(v reflect.Value, visit func(v reflect.Value)) {
	switch v.Kind() {
	case reflect.Slice:
		for i := range v.Len() {
			eachList(v.Index(i), visit)
		}
		visit(v)
	case reflect.Struct:
		for i := range v.NumField() {
			eachList(v.Field(i), visit)
		}
	}
}

func wantSame(t *testing.T, what string, a, b api.Module, want bool) {
	t.Helper()
	if Same(a, b) != want || Same(b, a) != want {
		t.Errorf("%s: Same = %v, %v, want %v of %v and %v", what, Same(a, b), Same(b, a), want, a, b)
	}
}

// Same

func TestSameOfModulesThatAreAlike(t *testing.T) {
	for what, build := range map[string]func() api.Module{"smallest": smallest, "large": large, "full": full, "none": func() api.Module { return api.Module{} }} {
		wantSame(t, what, build(), build(), true)
	}
	m := full()
	wantSame(t, "the very same", m, m, true)
	wantSame(t, "apart", large(), full(), false)
	wantSame(t, "none and one", api.Module{}, smallest(), false)
	wantSame(t, "no list and an empty one", api.Module{}, api.Module{Funcs: []api.Func{}}, true)
}

func TestSameHoldsEveryNumber(t *testing.T) {
	numbers := 0
	eachNumber(reflect.ValueOf(full()), func(v reflect.Value) { numbers++ })
	for k := range numbers {
		for _, more := range []int64{1, -1, 1 << 32} {
			m, i := full(), 0
			eachNumber(reflect.ValueOf(&m).Elem(), func(v reflect.Value) {
				if i == k {
					v.SetInt(v.Int() + more)
				}
				i++
			})
			wantSame(t, fmt.Sprint("the number ", k), full(), m, false)
		}
	}
	if numbers < 200 {
		t.Errorf("%d numbers alone", numbers)
	}
}

// changedList is full with its list k changed.
func changedList(k int, change func(v reflect.Value)) api.Module {
	m, i := full(), 0
	eachList(reflect.ValueOf(&m).Elem(), func(v reflect.Value) {
		if i == k {
			change(v)
		}
		i++
	})
	return m
}

func TestSameHoldsEveryList(t *testing.T) {
	lists := 0
	eachList(reflect.ValueOf(full()), func(v reflect.Value) { lists++ })
	for k := range lists {
		more := changedList(k, func(v reflect.Value) { v.Set(reflect.Append(v, reflect.Zero(v.Type().Elem()))) })
		wantSame(t, fmt.Sprint("one more in the list ", k), full(), more, false)
		none := changedList(k, func(v reflect.Value) { v.SetZero() })
		empty := changedList(k, func(v reflect.Value) { v.Set(reflect.MakeSlice(v.Type(), 0, 3)) })
		wantSame(t, fmt.Sprint("no list and an empty one, the list ", k), none, empty, true)
		fewer := changedList(k, func(v reflect.Value) {
			if v.Len() > 0 {
				v.SetLen(v.Len() - 1)
			}
		})
		if told(fewer) != told(full()) {
			wantSame(t, fmt.Sprint("one fewer in the list ", k), full(), fewer, false)
			wantSame(t, fmt.Sprint("nothing in the list ", k), full(), none, false)
		}
	}
}

func TestSameIsAsWhatIsTold(t *testing.T) {
	for seed := range int64(400) {
		r := rand.New(rand.NewSource(seed))
		a, b := anyModule(r), anyModule(r)
		wantSame(t, fmt.Sprint("seed ", seed), a, b, told(a) == told(b))
		wantSame(t, fmt.Sprint("seed ", seed, ", again"), a, anyModule(rand.New(rand.NewSource(seed))), true)
	}
}

// Own

func TestOwnIsLikeWhatItIsOf(t *testing.T) {
	for what, m := range map[string]api.Module{"smallest": smallest(), "large": large(), "full": full(), "none": {}, "an empty list": {Funcs: []api.Func{}}} {
		if got := Own(m); told(got) != told(m) || !Same(got, m) {
			t.Errorf("%s: Own = %v, want %v", what, got, m)
		}
	}
	for seed := range int64(400) {
		m := anyModule(rand.New(rand.NewSource(seed)))
		if got := Own(m); told(got) != told(m) || !Same(got, m) || Check(got) != Check(m) {
			t.Errorf("seed %d: Own = %v, want %v", seed, got, m)
		}
	}
}

// spoil overwrites all memory of all lists of a thing, and what they may grow into.
func spoil(v reflect.Value) {
	eachList(v, func(v reflect.Value) {
		whole := v.Slice(0, v.Cap())
		for i := range whole.Len() {
			eachNumber(whole.Index(i), func(v reflect.Value) { v.SetInt(-v.Int() - 1000) })
		}
	})
}

func TestOwnSharesNothingWithWhatIsHandedIn(t *testing.T) {
	for _, build := range []func() api.Module{smallest, large, full} {
		m, want := build(), told(build())
		one, two := Own(m), Own(m)
		spoil(reflect.ValueOf(one))
		if told(m) != want || told(two) != want {
			t.Errorf("behind a change of what was answered: handed in %v, answered ahead %v, want %s", m, two, want)
		}
		spoil(reflect.ValueOf(m))
		if told(two) != want {
			t.Errorf("behind a change of what was handed in: %v, want %s", two, want)
		}
	}
}

// memory answers the first and the last address of each list that has room.
func memory(m api.Module) [][2]uintptr {
	var all [][2]uintptr
	eachList(reflect.ValueOf(m), func(v reflect.Value) {
		if v.Cap() > 0 {
			all = append(all, [2]uintptr{v.Pointer(), v.Pointer() + uintptr(v.Cap())*v.Type().Elem().Size() - 1})
		}
	})
	return all
}

// entwined is a module whose lists share memory wherever they can.
func entwined() api.Module {
	fields := []api.Type{intType(), handleOf(0)}
	list := []api.Type{tupleAt(0, fields...), tupleAt(0, fields[:1]...), tupleAt(1, fields...)}
	numbers := []int{1, 2, 3, 4}
	to := api.To{Regs: numbers[:2], Args: numbers[1:]}
	code := []api.Ins{{Op: api.ICall, Regs: numbers, Args: numbers}, {Op: api.ITuple, Args: numbers[:0]}}
	block := api.Block{Regs: 2, Params: list, Code: code, End: api.End{Op: api.EIf, Yes: to, No: to, Args: numbers}}
	blocks := []api.Block{block, block}
	f := api.Func{Regs: 2, Params: list, Results: list[:2], Blocks: blocks}
	return api.Module{Funcs: []api.Func{f, f}}
}

func TestListsOfOneAnswerShareNothing(t *testing.T) {
	m := entwined()
	got := Own(m)
	if told(got) != told(m) {
		t.Fatalf("Own = %v, want %v", got, m)
	}
	all := append(memory(got), memory(m)...)
	own := len(memory(got))
	for i := range own {
		for j := i + 1; j < len(all); j++ {
			if all[i][0] <= all[j][1] && all[j][0] <= all[i][1] {
				t.Errorf("the list %d of what is answered shares memory with the list %d", i, j)
			}
		}
	}
	if own < 40 {
		t.Errorf("%d lists alone", own)
	}
}

// What holds everywhere

// roomy puts every list of the thing into memory that goes on behind its length, with something in it, and answers all of that memory.
func roomy(v reflect.Value) []reflect.Value {
	var all []reflect.Value
	eachList(v, func(v reflect.Value) {
		whole := reflect.MakeSlice(v.Type(), v.Len()+2, v.Len()+2)
		reflect.Copy(whole, v)
		for i := v.Len(); i < whole.Len(); i++ {
			eachNumber(whole.Index(i), func(v reflect.Value) { v.SetInt(99) })
		}
		v.Set(whole.Slice(0, v.Len()))
		all = append(all, whole)
	})
	return all
}

func toldMemory(all []reflect.Value) string {
	text := ""
	for _, v := range all {
		text += fmt.Sprint(v.Interface())
	}
	return text
}

func TestWhatIsHandedInStays(t *testing.T) {
	for seed := range int64(300) {
		m := anyModule(rand.New(rand.NewSource(seed)))
		plain := anyModule(rand.New(rand.NewSource(seed)))
		whole := roomy(reflect.ValueOf(&m).Elem())
		ahead := toldMemory(whole)
		if Check(m) != Check(plain) || !Same(m, plain) || !Same(plain, m) || told(Own(m)) != told(plain) {
			t.Errorf("seed %d: what lies behind a length is looked at", seed)
		}
		for f, x := range m.Funcs {
			for b, y := range x.Blocks {
				for i, z := range y.Code {
					if Ins(m, z) != Ins(plain, plain.Funcs[f].Blocks[b].Code[i]) {
						t.Errorf("seed %d: Ins looks at what lies behind a length", seed)
					}
				}
				if End(x, y.End) != End(plain.Funcs[f], plain.Funcs[f].Blocks[b].End) {
					t.Errorf("seed %d: End looks at what lies behind a length", seed)
				}
			}
		}
		if now := toldMemory(whole); now != ahead {
			t.Errorf("seed %d: handed in %s, now %s", seed, ahead, now)
		}
	}
}

func TestListsAtTheirBoundsMayHaveMoreBehind(t *testing.T) {
	m := funcsOf(api.MaxFuncs)
	for f := 1; f < api.MaxFuncs; f++ {
		blocks := make([]api.Block, api.MaxBlocks)
		for b := range blocks {
			blocks[b] = api.Block{Params: ints(api.MaxParams), Code: make([]api.Ins, api.MaxCode), End: api.End{Op: api.EJump, Yes: api.To{Regs: make([]int, api.MaxRegions), Args: make([]int, api.MaxParams)}}}
			for i := range blocks[b].Code {
				blocks[b].Code[i] = api.Ins{Op: api.ICall, K: 7, Regs: make([]int, api.MaxRegs), Args: make([]int, api.MaxParams)}
			}
		}
		m.Funcs[f] = api.Func{Params: ints(api.MaxParams), Results: ints(api.MaxParams), Blocks: blocks}
	}
	wantCheck(t, "all at their bounds", m, 0, 0)
	roomy(reflect.ValueOf(&m).Elem())
	wantCheck(t, "with more behind", m, 0, 0)
}

func TestDeepTypesAreTakenWhole(t *testing.T) {
	deep := func(inner api.Type) api.Module {
		m := smallest()
		m.Funcs[0].Params = []api.Type{nested(inner, 1<<16)}
		m.Funcs[0].Blocks[0].Params = []api.Type{nested(inner, 1<<16)}
		return m
	}
	m := deep(intType())
	got := Own(m)
	wantCheck(t, "deep", m, api.ErrDeep, 9999)
	wantCheck(t, "deep, its own", got, api.ErrDeep, 9999)
	if !Same(m, got) || Same(m, deep(handleOf(0))) || !types.Same(m.Funcs[0].Params[0], got.Funcs[0].Blocks[0].Params[0]) {
		t.Errorf("a deep type is not told apart, or not taken whole")
	}
}
