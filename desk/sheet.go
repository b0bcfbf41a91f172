package desk

import (
	"strings"

	"copyhold/api"
)

// enough bytes of lines make a text too long, the newline behind the last one not counted. It stays too long whatever comes behind, so that no more is kept.
const enough = api.MaxText + 2

// sheet is the lines of a text, each with a newline behind it: so a line with nothing in it is not the same as none.
type sheet struct {
	lines []byte
}

func (s *sheet) write(line string) {
	line += "\n"
	room := enough - len(s.lines)
	s.lines = append(s.lines, line[:min(len(line), room)]...)
}

func (s *sheet) wipe() {
	s.lines = nil
}

// text is the lines with newlines between.
func (s *sheet) text() string {
	return strings.TrimSuffix(string(s.lines), "\n")
}
