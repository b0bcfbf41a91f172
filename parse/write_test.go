package parse

import (
	"fmt"
	"math/rand"
	"slices"
	"strconv"
	"strings"

	"copyhold/api"
)

// The writer is the grammar the other way round, with its own words: it tells the tokens of a module, and so each of its fields.

func written(m api.Module) []string {
	var tokens []string
	for _, f := range m.Funcs {
		tokens = append(tokens, "func", strconv.Itoa(f.Regs))
		tokens = append(tokens, writtenTypes(f.Params)...)
		tokens = append(tokens, "->")
		tokens = append(tokens, writtenTypes(f.Results)...)
		tokens = append(tokens, "{")
		for _, b := range f.Blocks {
			tokens = append(tokens, writtenBlock(b)...)
		}
		tokens = append(tokens, "}")
	}
	return tokens
}

func writtenBlock(b api.Block) []string {
	tokens := []string{"block", strconv.Itoa(b.Regs)}
	tokens = append(tokens, writtenTypes(b.Params)...)
	tokens = append(tokens, "{")
	for _, x := range b.Code {
		tokens = append(append(tokens, writtenIns(x)...), ";")
	}
	return append(append(tokens, writtenEnd(b.End)...), ";", "}")
}

func writtenTypes(list []api.Type) []string {
	tokens := []string{"("}
	for i, t := range list {
		if i > 0 {
			tokens = append(tokens, ",")
		}
		switch t.Kind {
		case api.TInt:
			tokens = append(tokens, "int")
		case api.THandle:
			tokens = append(tokens, "handle", strconv.Itoa(t.R))
		case api.TArray:
			tokens = append(tokens, "array", strconv.Itoa(t.R))
		case api.TTuple:
			tokens = append(tokens, "tuple", strconv.Itoa(t.R))
			tokens = append(tokens, writtenTypes(t.L)...)
		}
	}
	return append(tokens, ")")
}

// writtenIns writes words, numbers and lists, as the chapter's line of each kind has them.
func writtenIns(x api.Ins) []string {
	kinds := map[int]string{api.KAdd: "add", api.KSub: "sub", api.KMul: "mul", api.KDiv: "div", api.KMod: "mod", api.KLess: "less", api.KEq: "eq", api.KAnd: "and", api.KXor: "xor"}
	words := map[int]string{
		api.INum:   fmt.Sprint("num ", x.N),
		api.IBin:   fmt.Sprint("bin ", kinds[x.K], " ", x.A, " ", x.B),
		api.INew:   "new",
		api.IFree:  fmt.Sprint("free ", x.A),
		api.ITuple: fmt.Sprint("tuple ", x.A),
		api.IGet:   fmt.Sprint("get ", x.A, " ", x.K),
		api.ISet:   fmt.Sprint("set ", x.A, " ", x.K, " ", x.B),
		api.IArray: fmt.Sprint("array ", x.A, " ", x.B),
		api.ILoad:  fmt.Sprint("load ", x.A, " ", x.B),
		api.IStore: fmt.Sprint("store ", x.A, " ", x.B, " ", x.C),
		api.ILen:   fmt.Sprint("len ", x.A),
		api.IIn:    "in",
		api.IOut:   fmt.Sprint("out ", x.A),
		api.ICall:  fmt.Sprint("call ", x.K),
	}
	tokens := strings.Fields(words[x.Op])
	if x.Op == api.ICall {
		tokens = append(tokens, writtenNumbers("<", x.Regs, ">")...)
	}
	if x.Op == api.ICall || x.Op == api.ITuple {
		tokens = append(tokens, writtenNumbers("(", x.Args, ")")...)
	}
	return tokens
}

func writtenEnd(e api.End) []string {
	switch e.Op {
	case api.EJump:
		return append([]string{"jump"}, writtenTo(e.Yes)...)
	case api.EIf:
		tokens := append([]string{"if", strconv.Itoa(e.A), "to"}, writtenTo(e.Yes)...)
		return append(append(tokens, "else"), writtenTo(e.No)...)
	}
	return append([]string{"ret"}, writtenNumbers("(", e.Args, ")")...)
}

func writtenTo(to api.To) []string {
	tokens := append([]string{strconv.Itoa(to.Block)}, writtenNumbers("<", to.Regs, ">")...)
	return append(tokens, writtenNumbers("(", to.Args, ")")...)
}

func writtenNumbers(open string, list []int, shut string) []string {
	tokens := []string{open}
	for i, n := range list {
		if i > 0 {
			tokens = append(tokens, ",")
		}
		tokens = append(tokens, strconv.Itoa(n))
	}
	return append(tokens, shut)
}

// placed joins tokens by blanks, and tells where each one begins.
func placed(tokens []string) (string, []int) {
	var b strings.Builder
	at := make([]int, len(tokens))
	for i, text := range tokens {
		if i > 0 {
			b.WriteString(" ")
		}
		at[i] = b.Len()
		b.WriteString(text)
	}
	return b.String(), at
}

// tight joins tokens with a blank only where two would be one without.
func tight(tokens []string) string {
	var b strings.Builder
	last := byte(' ')
	for _, text := range tokens {
		if grows(last, text[0]) {
			b.WriteString(" ")
		}
		b.WriteString(text)
		last = text[len(text)-1]
	}
	return b.String()
}

func grows(last, first byte) bool {
	letters := func(c byte) bool { return c >= 'a' && c <= 'z' }
	digits := func(c byte) bool { return c >= '0' && c <= '9' }
	return letters(last) && letters(first) || digits(last) && digits(first)
}

// Modules by chance; all that anyModule makes is let by by code.Check.

func anyModule(r *rand.Rand) api.Module {
	m := api.Module{Funcs: make([]api.Func, 1+r.Intn(4))}
	for i := range m.Funcs {
		m.Funcs[i] = anyFunc(r, i > 0, len(m.Funcs))
	}
	return m
}

func anyFunc(r *rand.Rand, called bool, funcs int) api.Func {
	f := api.Func{Results: slices.Repeat([]api.Type{{Kind: api.TInt}}, r.Intn(3))}
	if called {
		f.Regs = r.Intn(api.MaxRegs + 1)
		f.Params, f.Results = anyTypes(r, f.Regs, 0), anyTypes(r, f.Regs, 0)
	}
	f.Blocks = make([]api.Block, 1+r.Intn(3))
	for i := range f.Blocks {
		b := api.Block{Regs: f.Regs, Params: f.Params, Code: make([]api.Ins, r.Intn(6))}
		if i > 0 {
			b.Regs += r.Intn(api.MaxRegions - f.Regs + 1)
			b.Params = anyTypes(r, b.Regs, 0)
		}
		for k := range b.Code {
			b.Code[k] = anyIns(r, funcs)
		}
		b.End = anyEnd(r, len(f.Blocks))
		f.Blocks[i] = b
	}
	return f
}

func anyTypes(r *rand.Rand, regs, around int) []api.Type {
	list := make([]api.Type, r.Intn(4))
	for i := range list {
		t := api.Type{Kind: api.TInt}
		if regs > 0 && r.Intn(4) > 0 {
			t.Kind, t.R = api.THandle+r.Intn(3), r.Intn(regs)
		}
		if t.Kind == api.TTuple && around < api.MaxNested {
			t.L = anyTypes(r, regs, around+1)
		}
		list[i] = t
	}
	return list
}

func anyNum(r *rand.Rand) int {
	if r.Intn(2) == 0 {
		return r.Intn(10)
	}
	return r.Intn(1000001)
}

func anyNums(r *rand.Rand, most int) []int {
	list := make([]int, r.Intn(most+1))
	for i := range list {
		list[i] = anyNum(r)
	}
	return list
}

func anyIns(r *rand.Rand, funcs int) api.Ins {
	x := api.Ins{Op: 1 + r.Intn(api.ICall)}
	switch x.Op {
	case api.INum:
		x.N = int64(r.Uint64()) >> r.Intn(64)
	case api.IBin:
		x.A, x.B, x.K = anyNum(r), anyNum(r), 1+r.Intn(api.KXor)
	case api.IFree, api.ILen, api.IOut:
		x.A = anyNum(r)
	case api.ITuple:
		x.A, x.Args = anyNum(r), anyNums(r, api.MaxFields)
	case api.IGet:
		x.A, x.K = anyNum(r), r.Intn(api.MaxFields)
	case api.ISet:
		x.A, x.B, x.K = anyNum(r), anyNum(r), r.Intn(api.MaxFields)
	case api.IArray, api.ILoad:
		x.A, x.B = anyNum(r), anyNum(r)
	case api.IStore:
		x.A, x.B, x.C = anyNum(r), anyNum(r), anyNum(r)
	case api.ICall:
		x.K, x.Regs, x.Args = r.Intn(funcs), anyNums(r, api.MaxRegs), anyNums(r, api.MaxParams)
	}
	return x
}

func anyEnd(r *rand.Rand, blocks int) api.End {
	to := func() api.To {
		return api.To{Block: r.Intn(blocks), Regs: anyNums(r, api.MaxRegions), Args: anyNums(r, api.MaxParams)}
	}
	switch r.Intn(3) {
	case 0:
		return api.End{Op: api.EJump, Yes: to()}
	case 1:
		return api.End{Op: api.EIf, A: anyNum(r), Yes: to(), No: to()}
	}
	return api.End{Op: api.ERet, Args: anyNums(r, api.MaxParams)}
}
