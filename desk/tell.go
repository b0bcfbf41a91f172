package desk

import (
	"strconv"

	"copyhold/api"
)

// tell is a word and the numbers behind it, as a line.
func tell(word string, numbers ...int64) string {
	line := []byte(word)
	for _, n := range numbers {
		line = strconv.AppendInt(append(line, ' '), n, 10)
	}
	return string(append(line, '\n'))
}

func no(fault api.Fault) string {
	return tell("no", int64(fault.Code), int64(fault.At))
}

// unknown is told of what nobody asks for.
func unknown() string {
	return tell("what")
}

func Ends(end int) string {
	words := []string{
		api.EndHalt:   "halt",
		api.EndDivide: "divide",
		api.EndIndex:  "index",
		api.EndLength: "length",
		api.EndInput:  "input",
		api.EndDepth:  "depth",
		api.EndMemory: "memory",
		api.EndFuel:   "fuel",
		api.EndOutput: "output",
	}
	if end < 0 || end >= len(words) {
		return ""
	}
	return words[end]
}
