package ideal

import (
	"math/rand"
	"testing"

	"copyhold/api"
	"copyhold/arith"
	"copyhold/code"
	"copyhold/sample"
	"copyhold/verify"
)

// area is a region, with how many words each of its things takes; a seen knows its own.
type area struct {
	gone  bool
	words []int
}

func (a *area) pages() int {
	n, used := 0, api.PageWords
	for _, words := range a.words {
		if used+words > api.PageWords {
			n, used = n+1, 0
		}
		used += words
	}
	return n
}

type seen struct {
	kind   int
	n      int64
	region *area
	parts  *[]seen
}

func whole(n int64) seen { return seen{kind: api.TInt, n: n} }

// plainCall is a call that is open.
type plainCall struct {
	f, b, i int
	regions []*area
	values  []seen
}

// plain is the chapter's own words: it looks at all that a step asks ahead of doing it, and counts its pages anew each time.
type plain struct {
	m           api.Module
	in          []int64
	fuel, pages int
	areas       []*area
	calls       []plainCall
	o           api.Outcome
	done        bool
	fault       api.Fault
}

// How a step turns out, beside the Ends.
const (
	goesOn  = -1
	isStuck = -2
)

func newPlain(m api.Module, in []int64, fuel, pages int) *plain {
	return &plain{m: m, in: in, fuel: fuel, pages: pages, calls: []plainCall{{}}}
}

func (p *plain) live() int {
	n := 0
	for _, a := range p.areas {
		if !a.gone {
			n++
		}
	}
	return n
}

func (p *plain) left() int {
	n := p.pages
	for _, a := range p.areas {
		if !a.gone {
			n -= a.pages()
		}
	}
	return n
}

func (p *plain) step() api.Fault {
	if p.done || p.fault.Code != 0 {
		return p.fault
	}
	if p.o.Fuel == p.fuel {
		p.done, p.o.End = true, api.EndFuel
		return api.Fault{}
	}
	p.o.Fuel++
	c := p.calls[len(p.calls)-1]
	block := p.m.Funcs[c.f].Blocks[c.b]
	at, turn := code.EndAt(c.f, c.b), 0
	if c.i < len(block.Code) {
		at = code.InsAt(c.f, c.b, c.i)
		turn = p.ins(block.Code[c.i])
	} else {
		turn = p.end(block.End)
	}
	switch {
	case turn == isStuck:
		p.fault = api.Fault{Code: api.ErrStuck, At: at}
	case turn != goesOn:
		p.done, p.o.End = true, turn
	}
	return p.fault
}

func (c *plainCall) has(a, kind int) bool {
	return a >= 0 && a < len(c.values) && (kind == 0 || c.values[a].kind == kind)
}

// living: it is of the kind, and its region is there.
func (c *plainCall) living(a, kind int) bool {
	return c.has(a, kind) && !c.values[a].region.gone
}

func (c *plainCall) hasAll(list []int) bool {
	for _, a := range list {
		if !c.has(a, 0) {
			return false
		}
	}
	return true
}

func (c *plainCall) all(list []int) []seen {
	var values []seen
	for _, a := range list {
		values = append(values, c.values[a])
	}
	return values
}

// asks tells whether the values and regions that an instruction names are there, and of their kinds.
func (p *plain) asks(c *plainCall, x api.Ins) bool {
	switch x.Op {
	case api.IBin:
		return c.has(x.A, api.TInt) && c.has(x.B, api.TInt)
	case api.IFree:
		return c.living(x.A, api.THandle)
	case api.ITuple:
		return c.living(x.A, api.THandle) && c.hasAll(x.Args)
	case api.IGet:
		return c.living(x.A, api.TTuple) && x.K < len(*c.values[x.A].parts)
	case api.ISet:
		return c.living(x.A, api.TTuple) && x.K < len(*c.values[x.A].parts) && c.has(x.B, 0)
	case api.IArray:
		return c.has(x.A, 0) && c.has(x.B, api.TInt) && (p.noLength(c, x) || c.living(x.A, api.THandle))
	case api.ILoad:
		return c.living(x.A, api.TArray) && c.has(x.B, api.TInt)
	case api.IStore:
		return c.living(x.A, api.TArray) && c.has(x.B, api.TInt) && c.has(x.C, api.TInt)
	case api.ILen:
		return c.living(x.A, api.TArray)
	case api.IOut:
		return c.has(x.A, api.TInt)
	case api.ICall:
		return c.mayBegin(p.m.Funcs[x.K].Blocks[0], x.Regs, x.Args)
	}
	return true
}

func (p *plain) noLength(c *plainCall, x api.Ins) bool {
	n := c.values[x.B].n
	return n < 0 || n > api.MaxArray
}

func (c *plainCall) mayBegin(b api.Block, regs, args []int) bool {
	for _, r := range regs {
		if r < 0 || r >= len(c.regions) {
			return false
		}
	}
	return len(regs) == b.Regs && len(args) == len(b.Params) && c.hasAll(args)
}

func (c *plainCall) begin(f, b int, regs, args []int) plainCall {
	next := plainCall{f: f, b: b, values: c.all(args)}
	for _, r := range regs {
		next.regions = append(next.regions, c.regions[r])
	}
	return next
}

func (p *plain) ends(c *plainCall, x api.Ins) int {
	switch x.Op {
	case api.IBin:
		if (x.K == api.KDiv || x.K == api.KMod) && c.values[x.B].n == 0 {
			return api.EndDivide
		}
	case api.INew:
		if p.live() == api.MaxRegions {
			return api.EndMemory
		}
	case api.ITuple:
		if !p.hasRoom(c.values[x.A].region, max(1, len(x.Args))) {
			return api.EndMemory
		}
	case api.IArray:
		if p.noLength(c, x) {
			return api.EndLength
		}
		if !p.hasRoom(c.values[x.A].region, 1+int(c.values[x.B].n)) {
			return api.EndMemory
		}
	case api.ILoad, api.IStore:
		if n := c.values[x.B].n; n < 0 || n >= int64(len(*c.values[x.A].parts)) {
			return api.EndIndex
		}
	case api.IIn:
		if len(p.in) == 0 {
			return api.EndInput
		}
	case api.IOut:
		if len(p.o.Out) == api.MaxOutput {
			return api.EndOutput
		}
	case api.ICall:
		if len(p.calls) == api.MaxFrames {
			return api.EndDepth
		}
	}
	return goesOn
}

func (p *plain) hasRoom(a *area, words int) bool {
	with := area{words: append(a.words[:len(a.words):len(a.words)], words)}
	return with.pages()-a.pages() <= p.left()
}

func (p *plain) thing(a *area, kind, words int, parts []seen) []seen {
	a.words = append(a.words, words)
	return []seen{{kind: kind, region: a, parts: &parts}}
}

func (p *plain) ins(x api.Ins) int {
	top := len(p.calls) - 1
	c := &p.calls[top]
	if !p.asks(c, x) {
		return isStuck
	}
	if end := p.ends(c, x); end != goesOn {
		return end
	}
	made := p.does(c, x)
	c.i++
	c.values = append(c.values, made...)
	if x.Op == api.ICall {
		p.calls = append(p.calls, c.begin(x.K, 0, x.Regs, x.Args))
	}
	return goesOn
}

// does answers what the instruction makes.
func (p *plain) does(c *plainCall, x api.Ins) []seen {
	switch x.Op {
	case api.INum:
		return []seen{whole(x.N)}
	case api.IBin:
		n, _ := arith.Op(x.K, c.values[x.A].n, c.values[x.B].n)
		return []seen{whole(n)}
	case api.INew:
		a := &area{}
		p.areas, c.regions = append(p.areas, a), append(c.regions, a)
		return []seen{{kind: api.THandle, region: a}}
	case api.IFree:
		c.values[x.A].region.gone = true
	case api.ITuple:
		return p.thing(c.values[x.A].region, api.TTuple, max(1, len(x.Args)), c.all(x.Args))
	case api.IArray:
		n := int(c.values[x.B].n)
		parts := make([]seen, n)
		for i := range parts {
			parts[i] = whole(0)
		}
		return p.thing(c.values[x.A].region, api.TArray, n+1, parts)
	case api.IGet:
		return []seen{(*c.values[x.A].parts)[x.K]}
	case api.ISet:
		(*c.values[x.A].parts)[x.K] = c.values[x.B]
	case api.ILoad:
		return []seen{(*c.values[x.A].parts)[c.values[x.B].n]}
	case api.IStore:
		(*c.values[x.A].parts)[c.values[x.B].n] = c.values[x.C]
	case api.ILen:
		return []seen{whole(int64(len(*c.values[x.A].parts)))}
	case api.IIn:
		n := p.in[0]
		p.in = p.in[1:]
		return []seen{whole(n)}
	case api.IOut:
		p.o.Out = append(p.o.Out, c.values[x.A].n)
	}
	return nil
}

func (p *plain) end(e api.End) int {
	top := len(p.calls) - 1
	c := &p.calls[top]
	f := p.m.Funcs[c.f]
	if e.Op == api.ERet {
		return p.ret(c, f, e.Args)
	}
	to := e.Yes
	if e.Op == api.EIf {
		if !c.has(e.A, api.TInt) {
			return isStuck
		}
		if c.values[e.A].n == 0 {
			to = e.No
		}
	}
	if !c.mayBegin(f.Blocks[to.Block], to.Regs, to.Args) {
		return isStuck
	}
	p.calls[top] = c.begin(c.f, to.Block, to.Regs, to.Args)
	return goesOn
}

func (p *plain) ret(c *plainCall, f api.Func, args []int) int {
	if len(args) != len(f.Results) || !c.hasAll(args) {
		return isStuck
	}
	list := c.all(args)
	if top := len(p.calls) - 1; top > 0 {
		p.calls = p.calls[:top]
		p.calls[top-1].values = append(p.calls[top-1].values, list...)
		return goesOn
	}
	var back []int64
	for _, v := range list {
		if v.kind != api.TInt {
			return isStuck
		}
		back = append(back, v.n)
	}
	p.o.Back = back
	return api.EndHalt
}

// wantAsPlain runs both step by step, and answers how it ended; isStuck: it did not.
func wantAsPlain(t *testing.T, seed int64, m api.Module, in []int64, fuel, pages int) int {
	t.Helper()
	x, p := begun(t, m, in, fuel, pages), newPlain(m, in, fuel, pages)
	for again := 0; again < 3; {
		if p.done || p.fault.Code != 0 {
			again++
		}
		want := p.step()
		if got := x.Step(); got != want {
			t.Fatalf("seed %d: Step() = %v behind %v, want %v: %+v", seed, got, p.o, want, m)
		}
		o := x.Outcome()
		if x.Done() != p.done || o.Fuel != p.o.Fuel || o.End != p.o.End || x.Pages() != p.left() || x.Live() != p.live() {
			t.Fatalf("seed %d: %v, %v, %d pages, %d regions, want %v, %v, %d, %d: %+v", seed, x.Done(), o, x.Pages(), x.Live(), p.done, p.o, p.left(), p.live(), m)
		}
	}
	if got, want := told(x.Outcome()), told(p.o); got != want {
		t.Fatalf("seed %d: %s, want %s: %+v", seed, got, want, m)
	}
	o, fault := Run(m, in, fuel, pages)
	if fault.Code == 0 && told(o) != told(p.o) || fault.Code != 0 && told(o) != told(api.Outcome{}) || fault != p.fault {
		t.Fatalf("seed %d: Run = %v, %v, want %v, %v", seed, o, fault, p.o, p.fault)
	}
	if fault.Code != 0 {
		return isStuck
	}
	return o.End
}

// comesIn answers some numbers; a run with none ends early.
func comesIn(r *rand.Rand) []int64 {
	var in []int64
	for range r.Intn(30) {
		in = append(in, int64(r.Intn(6)-1))
	}
	return in
}

func TestManyRunsAreAsThePlainOnes(t *testing.T) {
	right, others := map[int]int{}, map[int]int{}
	for seed := range int64(3000) {
		r := rand.New(rand.NewSource(seed))
		maker := sample.New(r.Intn)
		m := maker.Module()
		for _, x := range []api.Module{m, maker.Spoilt(m), maker.Spoilt(m), maker.Wild(), maker.Wild()} {
			if code.Check(x).Code != 0 {
				continue
			}
			tally := others
			if verify.Check(x).Code == 0 {
				tally = right
			}
			for range 2 {
				tally[wantAsPlain(t, seed, x, comesIn(r), r.Intn(400), r.Intn(6))]++
			}
		}
	}
	if right[isStuck] > 0 {
		t.Errorf("of what may be run %d are stuck", right[isStuck])
	}
	for end, tally := range map[string][]int{
		"halt":   {right[api.EndHalt], others[api.EndHalt]},
		"divide": {right[api.EndDivide], others[api.EndDivide]},
		"index":  {right[api.EndIndex], others[api.EndIndex]},
		"length": {right[api.EndLength], others[api.EndLength]},
		"input":  {right[api.EndInput], others[api.EndInput]},
		"depth":  {right[api.EndDepth], others[api.EndDepth]},
		"memory": {right[api.EndMemory], others[api.EndMemory]},
		"fuel":   {right[api.EndFuel], others[api.EndFuel]},
		"stuck":  {20, others[isStuck]},
	} {
		if tally[0] < 10 || tally[1] < 10 {
			t.Errorf("%s comes up %v times alone", end, tally)
		}
	}
}
