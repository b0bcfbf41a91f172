package desk

import (
	"fmt"
	"slices"
	"strings"
	"testing"

	"copyhold/api"
)

// Lines of the text. What stands in it is told by where a reading goes wrong: x can't go on, | is no sign.

func TestLinesOfTheText(t *testing.T) {
	for _, x := range []struct {
		lines []string
		told  string
	}{
		{list("|x"), "no 4 0"},
		{list("| x"), "no 4 1"},
		{list("|   x  "), "no 4 3"},
		{list("|", "|x"), "no 4 1"},
		{list("|", "|", "|", "|x"), "no 4 3"},
		{list("| ", "|x"), "no 4 2"},
		{list("|\t\r ", "|\rx"), "no 4 5"},
		{list("||"), "no 6 0"},
		{list("|||"), "no 6 0"},
		{list("| |"), "no 6 1"},
		{list("|  |x"), "no 6 2"},
		{list("|func|"), "no 6 4"},
		{list("|", "|  |"), "no 6 3"},
		{list("|func", "|func"), "no 4 5"},
		{list("|fu", "|nc"), "no 4 0"}, // a newline stands between, so that it is two words
		{list("|func 0", "| () -> ("), "no 5 15"},
		{list("|func 0", "| () -> (", "|"), "no 5 16"},
		{list("|func 0", "| () -> (", "|", "|", "|  "), "no 5 20"},
		{list("|# x", "|x"), "no 4 4"},
		{list("|# x", "|# x"), "no 2 -1"},
		{list("|read"), "no 4 0"},
		{list("|new", "|x"), "no 4 0"},
		{list("|\x00"), "no 6 0"},
		{list("|x", "|\xff"), "no 6 2"},
		{list("|"), "no 2 -1"},
		{list("|", "|", "|"), "no 2 -1"},
		{list(), "no 2 -1"},
	} {
		wantTold(t, New(), append(slices.Clone(x.lines), "read"), x.told)
		d := New()
		for _, line := range x.lines {
			wantTold(t, d, list(line))
		}
		wantTold(t, d, list("read", "read"), x.told, x.told)
	}
}

func TestALineOfTheTextBeginsWithItsSign(t *testing.T) {
	for _, line := range []string{" |x", "  |", "x|", "x |x", "\t|x", "\x00|", "｜x", "¦x"} {
		wantTold(t, New(), list(line, "read"), "what", "no 2 -1")
	}
}

func TestLinesOfTheTextTellNothingWithAModule(t *testing.T) {
	d := deskOf(t, five)
	wantTold(t, d, list("|read", "|print", "|", "| new", "print"), fiveText)
	wantTold(t, d, list("read"), fmt.Sprint("no 4 ", len(five)+1))
}

// Words

func TestLinesWithoutWords(t *testing.T) {
	for _, d := range []*Desk{New(), deskOf(t, five)} {
		for _, n := range []int{0, 1, 2, 3, 100, 70000} {
			wantTold(t, d, list(strings.Repeat(" ", n)))
			wantTold(t, d, list(strings.Repeat(" ", n), "x", strings.Repeat(" ", n)), "what")
		}
	}
	wantTold(t, New(), list("|x", "", "  ", "read"), "no 4 0")
	wantTold(t, New(), list("|", "", "  ", "|x", "read"), "no 4 1")
}

// gaps are blanks that may stand ahead of, between and behind words.
func gaps() [][3]string {
	return [][3]string{{"", " ", ""}, {" ", " ", ""}, {"", " ", " "}, {"  ", "  ", "  "}, {"", "     ", ""}, {strings.Repeat(" ", 3000), strings.Repeat(" ", 3000), strings.Repeat(" ", 3000)}}
}

func TestWordsAreParted(t *testing.T) {
	for _, gap := range gaps() {
		spread := func(line string) string {
			return gap[0] + strings.ReplaceAll(line, " ", gap[1]) + gap[2]
		}
		d := New()
		wantTold(t, d, list(spread("read"), "|"+echo, spread("read")), "no 2 -1", "yes 1")
		wantTold(t, d, list(spread("run 9 0 7 -8"), spread("run 0 0")), "input", "out 7 -8", "steps 7", "fuel", "out", "steps 0")
		wantTold(t, d, list(spread("new"), "read", spread("print")), "no 2 -1", "what")
		d = deskOf(t, five)
		wantTold(t, d, list(spread("print"), spread("trim"), spread("bytes x"), spread("bytes")), fiveText, "yes 1", "what", fmt.Sprint("bytes 21 ", sumOfAll))
	}
}

// otherParts might part words elsewhere.
func otherParts() []string {
	return []string{"\t", "\r", "\v", "\f", "\x00", "\x1f", "\x85", "\xa0", "\u0085", "\u00a0", "\u2003", "\u2009", "\u3000", "\ufeff", ",", ";", "|", "_", "\x20\xcc\x88"[1:]}
}

func TestNothingElsePartsWords(t *testing.T) {
	for _, part := range otherParts() {
		for _, line := range []string{"read" + part, part + "read", "new" + part, "print" + part, "bytes" + part, part + "print", "run" + part + "9 0", "run 9" + part + "0", "run 9 0" + part, "run 9 0" + part + "7", "run 9 0 7" + part, "run 9 " + part + " 0", "run 9 0 " + part, part} {
			if strings.HasPrefix(line, "|") {
				continue
			}
			d := deskOf(t, echo)
			wantTold(t, d, list(line), "what")
			wantTold(t, d, list("run 9 0 7", "read"), "input", "out 7", "steps 4", "yes 1")
		}
	}
}

// noOrders are none, whether there is a module or not.
func noOrders() []string {
	return []string{
		"x", "what", "yes", "no", "quit", "help", "do", "halt", "out", "steps", "0", "-1", "7", "()", "#", "# read", "//", "\"read\"", "'new'",
		"Read", "READ", "New", "nEw", "Print", "PRINT", "Bytes", "Trim", "Run 9 0", "RUN 9 0", "reaD", "rUn 1 1",
		"rea", "reads", "readread", "r", "ne", "news", "prin", "prints", "byte", "bytess", "tri", "trims", "ru 9 0", "runs 9 0", "run9 0", "run9 0 0",
		"read x", "read read", "read new", "x read", "read 0", "read |", "read ;", "new x", "new new", "x new", "new 1", "new read",
		"print x", "print print", "print 0", "print |", "bytes x", "bytes bytes", "bytes 0", "trim x", "trim trim", "trim 1", "print bytes", "r ead", "n ew", "p rint",
		"run", "run 5", "run -1", "run x", "run run", "run 5 x", "run x 5", "x run 9 0", "9 0 run", "run run 9 0", "run 9 0 run", "run 9 run 0",
		"read;", "read.", "(read)", "-read", "read-", "reаd", "ｒead", "read\x00", "\xff", "é",
	}
}

func TestWordsThatAreNotInTheTable(t *testing.T) {
	bare, full := New(), deskOf(t, five)
	wantTold(t, bare, list("|x"))
	wantTold(t, full, list("new", "|x"))
	for _, line := range noOrders() {
		wantTold(t, bare, list(line), "what")
		wantTold(t, full, list(line), "what")
		// and nothing was done
		wantTold(t, full, list("print", "run 9 0"), fiveText, "halt 5", "out", "steps 2")
	}
	wantTold(t, bare, list("read", "new", "read"), "no 4 0", "no 2 -1")
	wantTold(t, full, list("read", "new", "read"), "no 4 0", "no 2 -1")
}

func TestALongWord(t *testing.T) {
	for _, n := range []int{100, 70000} {
		wantTold(t, deskOf(t, five), list(strings.Repeat("x", n), strings.Repeat("read", n), "run 9 0 "+strings.Repeat("1", n), strings.Repeat("x ", n)), "what", "what", "what", "what")
	}
}

func TestOrdersWithoutAModule(t *testing.T) {
	orders := list("print", "bytes", "trim", "run 9 0", "run 9 0 7", "run -1 0", "run 9 65", "run 20001 0", "run 9", "run", "run x y")
	whats := slices.Repeat(list("what"), len(orders))
	wantTold(t, New(), orders, whats...)
	for _, d := range []*Desk{New(), deskOf(t, five)} {
		// none that was read, and none any more
		wantTold(t, d, append(list("new", "read"), orders...), append(list("no 2 -1"), whats...)...)
		wantTold(t, d, append(list("|"+five), orders...), whats...)
		wantTold(t, d, append(list("|x", "read"), orders...), append(list(fmt.Sprint("no 4 ", len(five)+1)), whats...)...)
		wantTold(t, d, list("new", "|"+six, "read", "print"), "yes 1", sixText)
	}
}

func TestLinesTellOneBehindTheOther(t *testing.T) {
	d := New()
	got, fault := d.Do(list("x", "|"+five, "read", "", "run 9 0", "new", "read", "print", "|"+six, "read", "print", "x"))
	want := ended("what", "yes 1", "halt 5", "out", "steps 2", "no 2 -1", "what", "yes 1", sixText, "what")
	if got != want || fault != (api.Fault{}) {
		t.Errorf("Do = %q, %v, want %q", got, fault, want)
	}
}
