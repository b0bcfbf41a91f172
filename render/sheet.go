package render

import (
	"strings"

	"copyhold/api"
)

// sheet is a text that grows by lines. Its methods tell whether it is still short enough: once it is not, nothing more is written, as types alone can be a thousand times as long.
type sheet struct{ text strings.Builder }

func (s *sheet) module(m api.Module) bool {
	return every(m.Funcs, s.function)
}

func (s *sheet) function(f api.Func) bool {
	return s.line("func", number(f.Regs), typeList(f.Params), "->", typeList(f.Results), "{") &&
		every(f.Blocks, s.block) &&
		s.line("}")
}

func (s *sheet) block(b api.Block) bool {
	return s.line("block", number(b.Regs), typeList(b.Params), "{") &&
		every(b.Code, func(x api.Ins) bool { return s.step(insText(x)) }) &&
		s.step(endText(b.End)) &&
		s.line("}")
}

// step is the line of an instruction or an end.
func (s *sheet) step(text string) bool {
	return s.line("\t" + text + ";")
}

func (s *sheet) line(parts ...string) bool {
	s.text.WriteString(spaced(parts...))
	s.text.WriteByte('\n')
	return s.text.Len() <= api.MaxText
}
