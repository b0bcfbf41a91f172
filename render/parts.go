package render

import (
	"strconv"
	"strings"

	"copyhold/api"
	"copyhold/parse"
	"copyhold/types"
)

func insText(x api.Ins) string {
	op := parse.Op(x.Op)
	switch x.Op {
	case api.INum:
		return spaced(op, strconv.FormatInt(x.N, 10))
	case api.IBin:
		return numbered(spaced(op, parse.Kind(x.K)), x.A, x.B)
	case api.IFree, api.ILen, api.IOut:
		return numbered(op, x.A)
	case api.ITuple:
		return spaced(numbered(op, x.A), args(x.Args))
	case api.IGet:
		return numbered(op, x.A, x.K)
	case api.ISet:
		return numbered(op, x.A, x.K, x.B)
	case api.IArray, api.ILoad:
		return numbered(op, x.A, x.B)
	case api.IStore:
		return numbered(op, x.A, x.B, x.C)
	case api.ICall:
		return spaced(numbered(op, x.K), regs(x.Regs), args(x.Args))
	}
	return op
}

func endText(e api.End) string {
	switch e.Op {
	case api.EJump:
		return spaced("jump", toText(e.Yes))
	case api.EIf:
		return spaced(numbered("if", e.A), "to", toText(e.Yes), "else", toText(e.No))
	}
	return spaced("ret", args(e.Args))
}

func toText(to api.To) string {
	return spaced(number(to.Block), regs(to.Regs), args(to.Args))
}

func number(n int) string { return strconv.Itoa(n) }

// numbered is a word with numbers behind it.
func numbered(word string, numbers ...int) string {
	for _, n := range numbers {
		word = spaced(word, number(n))
	}
	return word
}

func spaced(parts ...string) string { return strings.Join(parts, " ") }

func typeList(list []api.Type) string { return "(" + listed(list, types.Text) + ")" }
func regs(list []int) string          { return "<" + listed(list, number) + ">" }
func args(list []int) string          { return "(" + listed(list, number) + ")" }

// listed tells the things of a list by the function one, as they stand between brackets.
func listed[T any](list []T, one func(T) string) string {
	texts := make([]string, len(list))
	for i, x := range list {
		texts[i] = one(x)
	}
	return strings.Join(texts, ", ")
}
