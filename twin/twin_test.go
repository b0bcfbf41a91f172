package twin

import (
	"fmt"
	"slices"
	"strings"
	"testing"

	"copyhold/api"
	"copyhold/ideal"
	"copyhold/parse"
	"copyhold/raw"
)

func moduleOf(t *testing.T, text string) api.Module {
	t.Helper()
	m, fault := parse.Parse(text)
	if fault.Code != 0 {
		t.Fatalf("%s: no module: %v", text, fault)
	}
	return m
}

// header is the beginning of a first function with so many results.
func header(results int) string {
	return "func 0 () -> (" + strings.Join(slices.Repeat([]string{"int"}, results), ", ") + ") { "
}

// block is a module of one block, with so many results.
func block(t *testing.T, results int, body string) api.Module {
	t.Helper()
	return moduleOf(t, header(results)+"block 0 () { "+body+" } }")
}

// repeated is an instruction as often as that, with blanks between.
func repeated(ins string, n int) string {
	return strings.Repeat(ins+" ", n)
}

func begun(t *testing.T, m api.Module, in []int64, fuel, pages int) *Twin {
	t.Helper()
	x, fault := New(m, in, fuel, pages)
	if x == nil || fault != (api.Fault{}) {
		t.Fatalf("New(.., %v, %d, %d) = %v, %v, want a twin", in, fuel, pages, x, fault)
	}
	return x
}

// begunAndDone is a twin behind so many steps.
func begunAndDone(t *testing.T, m api.Module, pages, steps int) *Twin {
	t.Helper()
	x := begun(t, m, nil, api.MaxFuel, pages)
	for range steps {
		goOn(t, x)
	}
	return x
}

// look is all that a twin tells, or a machine.
type look struct {
	done        bool
	outcome     string
	pages, live int
}

func lookAt(x *Twin) look {
	return look{x.Done(), told(x.Outcome()), x.Pages(), x.Live()}
}

// told writes an outcome out; no list and an empty one are told alike.
func told(o api.Outcome) string { return fmt.Sprint(o) }

// goOn is a step that must be told without a fault.
func goOn(t *testing.T, x *Twin) {
	t.Helper()
	if fault := x.Step(); fault != (api.Fault{}) {
		t.Fatalf("Step() = %v behind %v, want no fault", fault, x.Outcome())
	}
}

// trio is a twin, and beside it a machine of each kind that runs the same, and that the twin knows nothing of.
type trio struct {
	*Twin
	sees *ideal.Machine
	raws *raw.Machine
}

func begunBeside(t *testing.T, m api.Module, in []int64, fuel, pages int) trio {
	t.Helper()
	sees, fault := ideal.New(m, in, fuel, pages)
	if fault.Code != 0 {
		t.Fatalf("no machine that sees: %v", fault)
	}
	raws, fault := raw.New(m, in, fuel, pages)
	if fault.Code != 0 {
		t.Fatalf("no machine that sees nothing: %v", fault)
	}
	return trio{begun(t, m, in, fuel, pages), sees, raws}
}

// wantAlike: the twin tells what each of the two has come to, and its own one that sees nothing has come to the same words.
func (x trio) wantAlike(t *testing.T) {
	t.Helper()
	o := x.Outcome()
	if !alike(o, x.sees.Outcome()) || x.Done() != x.sees.Done() || x.Pages() != x.sees.Pages() || x.Live() != x.sees.Live() {
		t.Fatalf("the twin: %v, the one that sees: %v, %v, %d, %d", lookAt(x.Twin), x.sees.Done(), x.sees.Outcome(), x.sees.Pages(), x.sees.Live())
	}
	if !alike(o, x.raws.Outcome()) || x.Done() != x.raws.Done() || x.Pages() != x.raws.Free() || x.Live() != x.raws.Count() {
		t.Fatalf("the twin: %v, the one that sees nothing: %v, %v, %d, %d", lookAt(x.Twin), x.raws.Done(), x.raws.Outcome(), x.raws.Free(), x.raws.Count())
	}
	if got, want := x.blind.Words(), x.raws.Words(); !slices.Equal(got, want) {
		t.Fatalf("the words are %v, want %v", got, want)
	}
}

// alike is what Same should be, told by itself.
func alike(a, b api.Outcome) bool {
	return a.End == b.End && a.Fuel == b.Fuel && slices.Equal(a.Back, b.Back) && slices.Equal(a.Out, b.Out)
}

// step is one of all three. The one that ends a run does nothing else, but that it may count.
func (x trio) step(t *testing.T) {
	t.Helper()
	pages, live, out := x.Pages(), x.Live(), x.Outcome().Out
	goOn(t, x.Twin)
	x.sees.Step()
	x.raws.Step()
	x.wantAlike(t)
	if x.Done() && (x.Pages() != pages || x.Live() != live || !slices.Equal(x.Outcome().Out, out)) {
		t.Fatalf("the last step did something more: %d pages, %d regions, %v, then %v", pages, live, out, lookAt(x.Twin))
	}
}

// followed runs step by step, and looks at what holds behind each step, and behind the last one.
func followed(t *testing.T, m api.Module, in []int64, fuel, pages int) *Twin {
	t.Helper()
	x := begunBeside(t, m, in, fuel, pages)
	if got, want := lookAt(x.Twin), (look{false, told(api.Outcome{}), pages, 0}); got != want {
		t.Errorf("at the beginning: %v, want %v", got, want)
	}
	x.wantAlike(t)
	for n := 0; !x.Done(); n++ {
		if o := x.Outcome(); o.End != 0 || len(o.Back) > 0 || o.Fuel != n {
			t.Fatalf("behind %d steps: %v", n, o)
		}
		x.step(t)
	}
	wantNothingMore(t, x.Twin)
	x.wantAlike(t)
	return x.Twin
}

// wantNothingMore: of a run that has ended nothing is done.
func wantNothingMore(t *testing.T, x *Twin) {
	t.Helper()
	last, words := lookAt(x), x.blind.Words()
	for range 3 {
		goOn(t, x)
		if got := lookAt(x); !got.done || got != last || !slices.Equal(x.blind.Words(), words) {
			t.Errorf("it goes on behind its end: %v, want %v", got, last)
		}
	}
}

// wantRun looks that Run and the steps one by one come to that, and answers the twin.
func wantRun(t *testing.T, m api.Module, in []int64, fuel, pages int, want api.Outcome) *Twin {
	t.Helper()
	got, fault := Run(m, in, fuel, pages)
	if fault != (api.Fault{}) || told(got) != told(want) {
		t.Errorf("Run = %v, %v, want %v", got, fault, want)
	}
	x := followed(t, m, in, fuel, pages)
	if o := x.Outcome(); told(o) != told(want) || !Same(o, want) {
		t.Errorf("step by step: %v, want %v", o, want)
	}
	return x
}

// wantBack: it halts with such numbers.
func wantBack(t *testing.T, m api.Module, steps int, back ...int64) *Twin {
	t.Helper()
	return wantRun(t, m, nil, api.MaxFuel, api.MaxPages, api.Outcome{Back: back, Fuel: steps})
}

// wantEnd: it ends so behind so many steps, and nothing went out.
func wantEnd(t *testing.T, m api.Module, pages, end, steps int) *Twin {
	t.Helper()
	return wantRun(t, m, nil, api.MaxFuel, pages, api.Outcome{End: end, Fuel: steps})
}

func wantCounts(t *testing.T, x *Twin, pages, live int) {
	t.Helper()
	if x.Pages() != pages || x.Live() != live {
		t.Errorf("Pages() = %d, Live() = %d, want %d, %d", x.Pages(), x.Live(), pages, live)
	}
}

// What holds everywhere

// spoil changes all that stands in a module's lists.
func spoil(m api.Module) {
	for f := range m.Funcs {
		for b := range m.Funcs[f].Blocks {
			block := &m.Funcs[f].Blocks[b]
			for i := range block.Code {
				x := &block.Code[i]
				fill(x.Args, x.Regs)
				*x = api.Ins{Op: 99}
			}
			e := block.End
			fill(e.Args, e.Yes.Args, e.Yes.Regs, e.No.Args, e.No.Regs)
			spoilTypes(block.Params)
			*block = api.Block{}
		}
		spoilTypes(m.Funcs[f].Params)
		spoilTypes(m.Funcs[f].Results)
		m.Funcs[f] = api.Func{}
	}
}

func fill(lists ...[]int) {
	for _, list := range lists {
		for i := range list {
			list[i] = 77
		}
	}
}

func spoilTypes(list []api.Type) {
	for i := range list {
		spoilTypes(list[i].L)
		list[i] = api.Type{Kind: 99, R: 77}
	}
}

// several has calls, an if, a jump, things, and numbers that come in and go out.
const several = `
func 0 () -> (int, int) {
	block 0 () { in; new; call 1 <0> (1, 0); in; out 3; jump 1 <0> (2, 1, 3); }
	block 1 (array 0, handle 0, int) { len 0; load 0 2; out 3; free 1; if 4 to 2 <> (3, 4) else 2 <> (4, 4); }
	block 0 (int, int) { ret (0, 1); }
}
func 1 (handle 0, int) -> (array 0) {
	block 1 (handle 0, int) { array 0 1; num 1; num 7; store 2 3 4; ret (2); }
}
`

// What several comes to when 4 and 1 come in.
func severalOutcome() api.Outcome {
	return api.Outcome{Back: []int64{4, 7}, Out: []int64{1, 4}, Fuel: 17}
}

func TestWhatIsHandedInIsNotChanged(t *testing.T) {
	m, in := moduleOf(t, several), []int64{4, 1}
	ahead := fmt.Sprintf("%#v", m)
	wantRun(t, m, in, 100, 3, severalOutcome())
	if now := fmt.Sprintf("%#v", m); now != ahead {
		t.Errorf("the module was changed: %s, want %s", now, ahead)
	}
	if !slices.Equal(in, []int64{4, 1}) {
		t.Errorf("what comes in was changed: %v", in)
	}
}

func TestWhatIsHandedInMayBeChangedBehindNew(t *testing.T) {
	for behind := range severalOutcome().Fuel {
		m, in := moduleOf(t, several), []int64{4, 1}
		x := begun(t, m, in, 100, 3)
		for range behind {
			goOn(t, x)
		}
		spoil(m)
		in[0], in[1] = 9, 9
		for !x.Done() {
			goOn(t, x)
		}
		if got, want := told(x.Outcome()), told(severalOutcome()); got != want {
			t.Errorf("changed behind %d steps: %s, want %s", behind, got, want)
		}
	}
}

func TestWhatLiesBehindAListsLengthIsNotRead(t *testing.T) {
	in := []int64{1, 2, 3}
	m := block(t, 1, "in; in; ret (1);")
	wantRun(t, m, in[:1], 9, 0, api.Outcome{End: api.EndInput, Fuel: 2})
	if !slices.Equal(in, []int64{1, 2, 3}) {
		t.Errorf("what comes in was changed: %v", in)
	}
	args := []int{0, 0}
	m.Funcs[0].Blocks[0].End.Args = args[:1]
	wantRun(t, m, in, 9, 0, api.Outcome{Back: []int64{1}, Fuel: 3})
}

func TestAnOutcomeMayBeChanged(t *testing.T) {
	x := begun(t, block(t, 2, "num 1; out 0; new; tuple 1 (0, 0); out 0; get 2 1; free 1; ret (0, 3);"), nil, 9, 2)
	for range 9 {
		goOn(t, x)
		want := lookAt(x)
		o := x.Outcome()
		for _, list := range [][]int64{o.Out, o.Back} {
			for i := range list {
				list[i] = 55
			}
			_ = append(list, 57)
		}
		if got := lookAt(x); got != want {
			t.Errorf("the twin tells %v, and told %v", got, want)
		}
	}
	if got, want := told(x.Outcome()), told(api.Outcome{Back: []int64{1, 1}, Out: []int64{1, 1}, Fuel: 8}); got != want {
		t.Errorf("Outcome is %s, want %s", got, want)
	}
}

func TestWhatRunAnswersMayBeChanged(t *testing.T) {
	m, in := moduleOf(t, several), []int64{4, 1}
	for range 3 {
		o, _ := Run(m, in, 100, 3)
		if told(o) != told(severalOutcome()) {
			t.Errorf("Run = %v, want %v", o, severalOutcome())
		}
		o.Back[0], o.Back[1], o.Out[0], o.Out[1] = 5, 5, 5, 5
		if !slices.Equal(in, []int64{4, 1}) {
			t.Errorf("what comes in was changed: %v", in)
		}
	}
}

func TestEarlierOutcomesStay(t *testing.T) {
	x := begun(t, block(t, 1, "num 1; out 0; num 2; out 1; num 3; out 2; ret (1);"), nil, 9, 0)
	var outcomes []api.Outcome
	var texts []string
	for range 9 {
		o := x.Outcome()
		outcomes, texts = append(outcomes, o), append(texts, told(o))
		goOn(t, x)
	}
	for i, text := range texts {
		if now := told(outcomes[i]); now != text {
			t.Errorf("what was told behind %d steps is %s, and was %s", i, now, text)
		}
	}
}

func TestTwoTwinsKnowNothingOfEachOther(t *testing.T) {
	m := moduleOf(t, several)
	a, b := begun(t, m, []int64{4, 1}, 100, 3), begun(t, m, []int64{2, 0}, 9, 64)
	for range 7 {
		goOn(t, a)
	}
	wantCounts(t, a, 2, 1)
	wantCounts(t, b, 64, 0)
	if got, want := lookAt(b), (look{false, told(api.Outcome{}), 64, 0}); got != want {
		t.Errorf("the second, which has not begun: %v, want %v", got, want)
	}
	for range 20 {
		goOn(t, b)
		goOn(t, a)
	}
	if got, want := lookAt(a), (look{true, told(severalOutcome()), 3, 0}); got != want {
		t.Errorf("the first: %v, want %v", got, want)
	}
	if got, want := lookAt(b), (look{true, told(api.Outcome{End: api.EndFuel, Fuel: 9}), 63, 1}); got != want {
		t.Errorf("the second: %v, want %v", got, want)
	}
}

func TestTwoTwinsOfTheSameInTurns(t *testing.T) {
	m, in := moduleOf(t, several), []int64{4, 1}
	a, b := begun(t, m, in, 100, 3), begun(t, m, in, 100, 3)
	for !a.Done() {
		want := lookAt(b)
		goOn(t, a)
		if got := lookAt(b); got != want {
			t.Errorf("a step of the first did something to the second: %v, want %v", got, want)
		}
		goOn(t, b)
		if lookAt(a) != lookAt(b) {
			t.Errorf("the first: %v, the second: %v", lookAt(a), lookAt(b))
		}
	}
}

func TestLookingChangesNothing(t *testing.T) {
	x := begunBeside(t, moduleOf(t, several), []int64{4, 1}, 100, 3)
	for !x.Done() {
		for range 3 {
			x.Done()
			x.Outcome()
			x.Pages()
			x.Live()
		}
		x.step(t)
	}
}

func TestARunIsToldAgain(t *testing.T) {
	m := moduleOf(t, several)
	for range 3 {
		wantRun(t, m, []int64{4, 1}, 100, 3, severalOutcome())
		wantRun(t, m, []int64{4, 3}, 100, 3, api.Outcome{Back: []int64{0, 0}, Out: []int64{3, 4}, Fuel: 17})
	}
}

func TestRunIsNewAndStepToTheEnd(t *testing.T) {
	m := moduleOf(t, several)
	for fuel := range 20 {
		for pages := range 3 {
			for _, in := range [][]int64{nil, {4}, {4, 1}, {4, 3}, {4, 4}, {16, 0}, {0, 0}, {4, 1, 1}} {
				x := followed(t, m, in, fuel, pages)
				if got, fault := Run(m, in, fuel, pages); fault.Code != 0 || told(got) != told(x.Outcome()) {
					t.Errorf("%v, %d, %d: Run = %v, %v, want %v", in, fuel, pages, got, fault, x.Outcome())
				}
			}
		}
	}
}
