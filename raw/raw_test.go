package raw

import (
	"fmt"
	"slices"
	"strings"
	"testing"

	"copyhold/api"
	"copyhold/ideal"
	"copyhold/parse"
)

func moduleOf(t *testing.T, text string) api.Module {
	t.Helper()
	m, fault := parse.Parse(text)
	if fault.Code != 0 {
		t.Fatalf("%s: no module: %v", text, fault)
	}
	return m
}

// header is the beginning of a first function with so many results.
func header(results int) string {
	return "func 0 () -> (" + strings.Join(slices.Repeat([]string{"int"}, results), ", ") + ") { "
}

// block is a module of one block, with so many results.
func block(t *testing.T, results int, body string) api.Module {
	t.Helper()
	return moduleOf(t, header(results)+"block 0 () { "+body+" } }")
}

// repeated is an instruction as often as that, with blanks between.
func repeated(ins string, n int) string {
	return strings.Repeat(ins+" ", n)
}

func begun(t *testing.T, m api.Module, in []int64, fuel, pages int) *Machine {
	t.Helper()
	x, fault := New(m, in, fuel, pages)
	if x == nil || fault != (api.Fault{}) {
		t.Fatalf("New(.., %v, %d, %d) = %v, %v, want a machine", in, fuel, pages, x, fault)
	}
	return x
}

// begunAndDone is a machine behind so many steps.
func begunAndDone(t *testing.T, m api.Module, pages, steps int) *Machine {
	t.Helper()
	x := begun(t, m, nil, api.MaxFuel, pages)
	for range steps {
		x.Step()
	}
	return x
}

// look is all that a machine tells.
type look struct {
	done        bool
	outcome     string
	free, count int
	words       string
}

func lookAt(m *Machine) look {
	return look{m.Done(), told(m.Outcome()), m.Free(), m.Count(), fmt.Sprint(m.Words())}
}

// told writes an outcome out; no list and an empty one are told alike.
func told(o api.Outcome) string { return fmt.Sprint(o) }

func sameOutcome(a, b api.Outcome) bool {
	return a.End == b.End && a.Fuel == b.Fuel && slices.Equal(a.Back, b.Back) && slices.Equal(a.Out, b.Out)
}

// wantAlike: the machine has come to what the one that sees has come to.
func wantAlike(t *testing.T, x *Machine, sees *ideal.Machine) {
	t.Helper()
	if x.Done() != sees.Done() || x.Free() != sees.Pages() || x.Count() != sees.Live() {
		t.Fatalf("behind %v: done %v, %d pages, %d regions, the one that sees: %v, %d, %d", x.Outcome(), x.Done(), x.Free(), x.Count(), sees.Done(), sees.Pages(), sees.Live())
	}
	if got, want := x.Outcome(), sees.Outcome(); !sameOutcome(got, want) {
		t.Fatalf("Outcome() = %v, the one that sees: %v", got, want)
	}
}

// wantStep is a step of both machines. The one that ends a run does nothing else.
func wantStep(t *testing.T, x *Machine, sees *ideal.Machine) {
	t.Helper()
	out, free, count, words := x.Outcome().Out, x.Free(), x.Count(), x.Words()
	x.Step()
	if fault := sees.Step(); fault.Code != 0 {
		t.Fatalf("the one that sees is stuck: %v", fault)
	}
	wantAlike(t, x, sees)
	if x.Done() && (x.Free() != free || x.Count() != count || !slices.Equal(x.Words(), words) || !slices.Equal(x.Outcome().Out, out)) {
		t.Fatalf("the last step did something more: %v", lookAt(x))
	}
}

// followed runs step by step, and looks at what holds behind each step, and behind the last one.
func followed(t *testing.T, m api.Module, in []int64, fuel, pages int) *Machine {
	t.Helper()
	x := begun(t, m, in, fuel, pages)
	sees, _ := ideal.New(m, in, fuel, pages)
	noughts := fmt.Sprint(make([]int64, pages*api.PageWords))
	if got, want := lookAt(x), (look{false, told(api.Outcome{}), pages, 0, noughts}); got != want {
		t.Errorf("at the beginning: %v, want %v", got, want)
	}
	for n := 0; !x.Done(); n++ {
		if o := x.Outcome(); o.End != 0 || len(o.Back) > 0 || o.Fuel != n {
			t.Fatalf("behind %d steps: %v", n, o)
		}
		wantStep(t, x, sees)
		if len(x.Words()) != pages*api.PageWords {
			t.Fatalf("%d words, want %d pages of them", len(x.Words()), pages)
		}
	}
	wantNothingMore(t, x)
	return x
}

// wantNothingMore: of a run that has ended nothing is done.
func wantNothingMore(t *testing.T, x *Machine) {
	t.Helper()
	last := lookAt(x)
	for range 3 {
		x.Step()
		if got := lookAt(x); !got.done || got != last {
			t.Errorf("it goes on behind its end: %v, want %v", got, last)
		}
	}
}

// wantRun looks that Run and the steps one by one come to that, and answers the machine.
func wantRun(t *testing.T, m api.Module, in []int64, fuel, pages int, want api.Outcome) *Machine {
	t.Helper()
	got, fault := Run(m, in, fuel, pages)
	if fault != (api.Fault{}) || told(got) != told(want) {
		t.Errorf("Run = %v, %v, want %v", got, fault, want)
	}
	x := followed(t, m, in, fuel, pages)
	if o := x.Outcome(); told(o) != told(want) {
		t.Errorf("step by step: %v, want %v", o, want)
	}
	return x
}

// wantBack: it halts with such numbers.
func wantBack(t *testing.T, m api.Module, steps int, back ...int64) *Machine {
	t.Helper()
	return wantRun(t, m, nil, api.MaxFuel, api.MaxPages, api.Outcome{Back: back, Fuel: steps})
}

// wantEnd: it ends so behind so many steps, and nothing went out.
func wantEnd(t *testing.T, m api.Module, pages, end, steps int) *Machine {
	t.Helper()
	return wantRun(t, m, nil, api.MaxFuel, pages, api.Outcome{End: end, Fuel: steps})
}

func wantCounts(t *testing.T, x *Machine, free, count int) {
	t.Helper()
	if x.Free() != free || x.Count() != count {
		t.Errorf("Free() = %d, Count() = %d, want %d, %d", x.Free(), x.Count(), free, count)
	}
}

// wantWords: the words begin with these, and all others are noughts.
func wantWords(t *testing.T, x *Machine, want ...int64) {
	t.Helper()
	got := x.Words()
	if len(want) > len(got) {
		t.Fatalf("Words() = %v, want %v", got, want)
	}
	rest := make([]int64, len(got)-len(want))
	if !slices.Equal(got, slices.Concat(want, rest)) {
		t.Errorf("Words() = %v, want %v and noughts", got, want)
	}
}

// What holds everywhere

// spoil changes all that stands in a module's lists.
func spoil(m api.Module) {
	for f := range m.Funcs {
		for b := range m.Funcs[f].Blocks {
			block := &m.Funcs[f].Blocks[b]
			for i := range block.Code {
				x := &block.Code[i]
				fill(x.Args, x.Regs)
				*x = api.Ins{Op: 99}
			}
			e := block.End
			fill(e.Args, e.Yes.Args, e.Yes.Regs, e.No.Args, e.No.Regs)
			*block = api.Block{}
		}
		clear(m.Funcs[f].Results)
		m.Funcs[f] = api.Func{}
	}
}

func fill(lists ...[]int) {
	for _, list := range lists {
		for i := range list {
			list[i] = 77
		}
	}
}

// several has calls, an if, a jump, things, and numbers that come in and go out.
const several = `
func 0 () -> (int, int) {
	block 0 () { in; new; call 1 <0> (1, 0); in; out 3; jump 1 <0> (2, 1, 3); }
	block 1 (array 0, handle 0, int) { len 0; load 0 2; out 3; free 1; if 4 to 2 <> (3, 4) else 2 <> (4, 4); }
	block 0 (int, int) { ret (0, 1); }
}
func 1 (handle 0, int) -> (array 0) {
	block 1 (handle 0, int) { array 0 1; num 1; num 7; store 2 3 4; ret (2); }
}
`

// What several comes to when 4 and 1 come in.
func severalOutcome() api.Outcome {
	return api.Outcome{Back: []int64{4, 7}, Out: []int64{1, 4}, Fuel: 17}
}

func TestWhatIsHandedInIsNotChanged(t *testing.T) {
	m, in := moduleOf(t, several), []int64{4, 1}
	ahead := fmt.Sprintf("%#v", m)
	wantRun(t, m, in, 100, 3, severalOutcome())
	if now := fmt.Sprintf("%#v", m); now != ahead {
		t.Errorf("the module was changed: %s, want %s", now, ahead)
	}
	if !slices.Equal(in, []int64{4, 1}) {
		t.Errorf("what comes in was changed: %v", in)
	}
}

func TestWhatIsHandedInMayBeChangedBehindNew(t *testing.T) {
	for behind := range 17 {
		m, in := moduleOf(t, several), []int64{4, 1}
		x := begun(t, m, in, 100, 3)
		for range behind {
			x.Step()
		}
		spoil(m)
		in[0], in[1] = 9, 9
		for !x.Done() {
			x.Step()
		}
		if got, want := told(x.Outcome()), told(severalOutcome()); got != want {
			t.Errorf("changed behind %d steps: %s, want %s", behind, got, want)
		}
	}
}

func TestWhatLiesBehindAListsLengthIsNotRead(t *testing.T) {
	in := []int64{1, 2, 3}
	m := block(t, 1, "in; in; ret (1);")
	wantRun(t, m, in[:1], 9, 0, api.Outcome{End: api.EndInput, Fuel: 2})
	if !slices.Equal(in, []int64{1, 2, 3}) {
		t.Errorf("what comes in was changed: %v", in)
	}
	args := []int{0, 0}
	m.Funcs[0].Blocks[0].End.Args = args[:1]
	wantRun(t, m, in, 9, 0, api.Outcome{Back: []int64{1}, Fuel: 3})
}

func TestWhatIsAnsweredMayBeChanged(t *testing.T) {
	m := block(t, 2, "num 1; out 0; new; tuple 1 (0, 0); out 0; get 2 1; free 1; ret (0, 3);")
	x := begun(t, m, nil, 9, 2)
	for range 9 {
		x.Step()
		want := lookAt(x)
		o, words := x.Outcome(), x.Words()
		for _, list := range [][]int64{o.Out, o.Back, words} {
			for i := range list {
				list[i] = 55
			}
			_ = append(list, 57)
		}
		if got := lookAt(x); got != want {
			t.Errorf("the machine tells %v, and told %v", got, want)
		}
	}
	if got, want := told(x.Outcome()), told(api.Outcome{Back: []int64{1, 1}, Out: []int64{1, 1}, Fuel: 8}); got != want {
		t.Errorf("Outcome is %s, want %s", got, want)
	}
}

func TestEarlierAnswersStay(t *testing.T) {
	x := begun(t, block(t, 0, "num 1; out 0; new; tuple 1 (0); out 0; array 1 0; free 1; ret ();"), nil, 9, 1)
	var outcomes []api.Outcome
	var words [][]int64
	var texts []string
	for range 9 {
		o, w := x.Outcome(), x.Words()
		outcomes, words, texts = append(outcomes, o), append(words, w), append(texts, fmt.Sprint(o, w))
		x.Step()
	}
	for i, text := range texts {
		if now := fmt.Sprint(outcomes[i], words[i]); now != text {
			t.Errorf("what was told behind %d steps is %s, and was %s", i, now, text)
		}
	}
}

func TestTwoMachinesKnowNothingOfEachOther(t *testing.T) {
	m := moduleOf(t, several)
	a, b := begun(t, m, []int64{4, 1}, 100, 3), begun(t, m, []int64{2, 0}, 9, 64)
	for range 7 {
		a.Step()
	}
	wantCounts(t, a, 2, 1)
	wantWords(t, a, 4, 0, 7)
	wantCounts(t, b, 64, 0)
	wantWords(t, b)
	for range 20 {
		b.Step()
		a.Step()
	}
	if got, want := told(a.Outcome()), told(severalOutcome()); got != want {
		t.Errorf("the first: %s, want %s", got, want)
	}
	if got, want := told(b.Outcome()), told(api.Outcome{End: api.EndFuel, Fuel: 9}); got != want {
		t.Errorf("the second: %s, want %s", got, want)
	}
	wantCounts(t, a, 3, 0)
	wantCounts(t, b, 63, 1)
	wantWords(t, b, 2, 0, 7)
}

func TestARunIsToldAgain(t *testing.T) {
	m := moduleOf(t, several)
	for range 3 {
		wantRun(t, m, []int64{4, 1}, 100, 3, severalOutcome())
		wantRun(t, m, []int64{4, 3}, 100, 3, api.Outcome{Back: []int64{0, 0}, Out: []int64{3, 4}, Fuel: 17})
	}
}

func TestRunIsNewAndStepToTheEnd(t *testing.T) {
	m := moduleOf(t, several)
	for fuel := range 20 {
		for pages := range 3 {
			for _, in := range [][]int64{nil, {4}, {4, 1}, {4, 3}, {4, 4}, {16, 0}, {0, 0}, {4, 1, 1}} {
				x := begun(t, m, in, fuel, pages)
				for !x.Done() {
					x.Step()
				}
				if got, fault := Run(m, in, fuel, pages); fault.Code != 0 || told(got) != told(x.Outcome()) {
					t.Errorf("%v, %d, %d: Run = %v, %v, want %v", in, fuel, pages, got, fault, x.Outcome())
				}
			}
		}
	}
}

func TestAnotherPanicIsNotHidden(t *testing.T) {
	x := begun(t, block(t, 0, "ret ();"), nil, 9, 0)
	defer func() {
		if up := recover(); up != "another" {
			t.Errorf("another panic: %v", up)
		}
		if x.Done() {
			t.Errorf("another panic ended the run")
		}
	}()
	x.attempt(func() { panic("another") })
}
