package render

import (
	"fmt"
	"math"
	"math/rand"
	"slices"
	"strings"

	"copyhold/api"
	"copyhold/code"
)

// The plain form is the chapter's own words: each line is a pattern, in which words in capitals stand for fields.

func patterns() map[int]string {
	return map[int]string{
		api.INum:   "num N",
		api.IBin:   "bin KIND A B",
		api.INew:   "new",
		api.IFree:  "free A",
		api.ITuple: "tuple A ARGS",
		api.IGet:   "get A K",
		api.ISet:   "set A K B",
		api.IArray: "array A B",
		api.ILoad:  "load A B",
		api.IStore: "store A B C",
		api.ILen:   "len A",
		api.IIn:    "in",
		api.IOut:   "out A",
		api.ICall:  "call K REGS ARGS",
	}
}

func endPatterns() map[int]string {
	return map[int]string{api.EJump: "jump YES", api.EIf: "if A to YES else NO", api.ERet: "ret ARGS"}
}

// filled puts texts for the words of a pattern that stand for fields. None of these words is a part of another one's text.
func filled(pattern string, fields map[string]string) string {
	words := strings.Split(pattern, " ")
	for i, word := range words {
		if text, ok := fields[word]; ok {
			words[i] = text
		}
	}
	return strings.Join(words, " ")
}

func plainText(m api.Module) string {
	var b strings.Builder
	for _, f := range m.Funcs {
		fmt.Fprintf(&b, "func %d (%s) -> (%s) {\n", f.Regs, plainTypes(f.Params), plainTypes(f.Results))
		for _, x := range f.Blocks {
			fmt.Fprintf(&b, "block %d (%s) {\n", x.Regs, plainTypes(x.Params))
			for _, y := range x.Code {
				fmt.Fprintf(&b, "\t%s;\n", plainIns(y))
			}
			fmt.Fprintf(&b, "\t%s;\n}\n", plainEnd(x.End))
		}
		b.WriteString("}\n")
	}
	return b.String()
}

func plainTypes(list []api.Type) string {
	var texts []string
	for _, t := range list {
		switch t.Kind {
		case api.TInt:
			texts = append(texts, "int")
		case api.THandle:
			texts = append(texts, fmt.Sprintf("handle %d", t.R))
		case api.TArray:
			texts = append(texts, fmt.Sprintf("array %d", t.R))
		case api.TTuple:
			texts = append(texts, fmt.Sprintf("tuple %d (%s)", t.R, plainTypes(t.L)))
		}
	}
	return strings.Join(texts, ", ")
}

func plainIns(x api.Ins) string {
	kinds := []string{"", "add", "sub", "mul", "div", "mod", "less", "eq", "and", "xor"}
	fields := map[string]string{"A": fmt.Sprint(x.A), "B": fmt.Sprint(x.B), "C": fmt.Sprint(x.C), "K": fmt.Sprint(x.K), "N": fmt.Sprint(x.N), "REGS": "<" + plainNumbers(x.Regs) + ">", "ARGS": "(" + plainNumbers(x.Args) + ")"}
	if x.Op == api.IBin {
		fields["KIND"] = kinds[x.K]
	}
	return filled(patterns()[x.Op], fields)
}

func plainEnd(e api.End) string {
	return filled(endPatterns()[e.Op], map[string]string{"A": fmt.Sprint(e.A), "YES": plainTo(e.Yes), "NO": plainTo(e.No), "ARGS": "(" + plainNumbers(e.Args) + ")"})
}

func plainTo(to api.To) string {
	return fmt.Sprintf("%d <%s> (%s)", to.Block, plainNumbers(to.Regs), plainNumbers(to.Args))
}

func plainNumbers(list []int) string {
	return strings.Trim(strings.ReplaceAll(fmt.Sprint(list), " ", ", "), "[]")
}

// plainNums are the numbers of which the chapter says that they are from 0 to a million.
func plainNums(m api.Module) []int {
	var all []int
	for _, f := range m.Funcs {
		for _, b := range f.Blocks {
			for _, x := range b.Code {
				all = append(all, slices.Concat([]int{x.A, x.B, x.C, x.K}, x.Regs, x.Args)...)
			}
			all = append(all, slices.Concat([]int{b.End.A}, b.End.Args, b.End.Yes.Regs, b.End.Yes.Args, b.End.No.Regs, b.End.No.Args)...)
		}
	}
	return all
}

func plainPrint(m api.Module) (string, api.Fault) {
	if fault := code.Check(m); fault.Code != 0 {
		return "", fault
	}
	if nums := plainNums(m); len(nums) > 0 && (slices.Min(nums) < 0 || slices.Max(nums) > 1000000) {
		return "", api.Fault{Code: api.ErrNumber, At: -1}
	}
	text := plainText(m)
	if len(text) > 40000 {
		return "", api.Fault{Code: api.ErrMany, At: -1}
	}
	return text, api.Fault{}
}

// maker makes modules that code.Check lets by, but for slips.
type maker struct {
	*rand.Rand
	large bool // has as many things as may be, for the most part
	slip  int  // one of so many numbers is one that can't be told; 0: none
}

func (r maker) count(least, most int) int {
	if r.large {
		return max(least, most-r.Intn(3))
	}
	return least + r.Intn(min(most-least, 3)+1)
}

func (r maker) number() int {
	if r.slip > 0 && r.Intn(r.slip) == 0 {
		return []int{-1, 1000001, math.MinInt, math.MaxInt, 1 << 32, -1 << 32}[r.Intn(6)]
	}
	return []int{0, 1, r.Intn(10), r.Intn(100), r.Intn(1000001), 999999, 1000000}[r.Intn(7)]
}

func (r maker) numbers(most int) []int {
	list := make([]int, r.count(0, most))
	for i := range list {
		list[i] = r.number()
	}
	return list
}

func (r maker) types(regs, around int) []api.Type {
	list := make([]api.Type, r.count(0, 3))
	for i := range list {
		t := api.Type{Kind: api.TInt}
		if regs > 0 && r.Intn(4) > 0 {
			t.Kind, t.R = api.THandle+r.Intn(3), r.Intn(regs)
		}
		if t.Kind == api.TTuple && around < api.MaxNested {
			t.L = r.types(regs, around+1)
		}
		list[i] = t
	}
	return list
}

func (r maker) ins(funcs int) api.Ins {
	x := api.Ins{Op: 1 + r.Intn(api.ICall)}
	for _, field := range strings.Fields(patterns()[x.Op]) {
		switch field {
		case "A":
			x.A = r.number()
		case "B":
			x.B = r.number()
		case "C":
			x.C = r.number()
		case "N":
			x.N = int64(r.Uint64()) >> r.Intn(64)
		case "KIND":
			x.K = 1 + r.Intn(api.KXor)
		case "REGS":
			x.Regs = r.numbers(api.MaxRegs)
		case "ARGS":
			x.Args = r.numbers(8)
		case "K":
			x.K = r.Intn(api.MaxFields)
			if x.Op == api.ICall {
				x.K = r.Intn(funcs)
			}
		}
	}
	return x
}

func (r maker) to(blocks int) api.To {
	return api.To{Block: r.Intn(blocks), Regs: r.numbers(api.MaxRegions), Args: r.numbers(api.MaxParams)}
}

func (r maker) end(blocks int) api.End {
	switch r.Intn(3) {
	case 0:
		return api.End{Op: api.EJump, Yes: r.to(blocks)}
	case 1:
		return api.End{Op: api.EIf, A: r.number(), Yes: r.to(blocks), No: r.to(blocks)}
	}
	return api.End{Op: api.ERet, Args: r.numbers(api.MaxParams)}
}

func (r maker) block(f api.Func, first bool, funcs, blocks int) api.Block {
	b := api.Block{Regs: f.Regs, Params: f.Params, Code: make([]api.Ins, r.count(0, api.MaxCode)), End: r.end(blocks)}
	if !first {
		b.Regs += r.Intn(api.MaxRegions - f.Regs + 1)
		b.Params = r.types(b.Regs, 0)
	}
	for i := range b.Code {
		b.Code[i] = r.ins(funcs)
	}
	return b
}

func (r maker) module() api.Module { return r.moduleOf(r.count(1, api.MaxFuncs)) }

func (r maker) moduleOf(funcs int) api.Module {
	m := api.Module{Funcs: make([]api.Func, funcs)}
	for i := range m.Funcs {
		f := api.Func{Results: make([]api.Type, r.count(0, api.MaxParams))}
		for k := range f.Results {
			f.Results[k] = intType()
		}
		if i > 0 {
			f.Regs = r.Intn(api.MaxRegs + 1)
			f.Params, f.Results = r.types(f.Regs, 0), r.types(f.Regs, 0)
		}
		blocks := r.count(1, api.MaxBlocks)
		for b := range blocks {
			f.Blocks = append(f.Blocks, r.block(f, b == 0, funcs, blocks))
		}
		m.Funcs[i] = f
	}
	return m
}

func newMaker(seed int64) maker { return maker{Rand: rand.New(rand.NewSource(seed))} }
