package desk

import (
	"fmt"
	"slices"
	"strings"
	"testing"

	"copyhold/api"
)

// wantDo: Do answers just that, and what was handed in is as it was.
func wantDo(t *testing.T, d *Desk, lines []string, told string, fault api.Fault) {
	t.Helper()
	ahead := slices.Clone(lines)
	got, gotFault := d.Do(lines)
	if got != told || gotFault != fault {
		t.Errorf("%s: Do = %q, %v, want %q, %v", short(lines), cut(got), gotFault, cut(told), fault)
	}
	if !slices.Equal(lines, ahead) {
		t.Errorf("%s: the lines were changed", short(ahead))
	}
}

// wantTold: the lines tell those lines, each with a newline behind it.
func wantTold(t *testing.T, d *Desk, lines []string, told ...string) {
	t.Helper()
	wantDo(t, d, lines, ended(told...), api.Fault{})
}

func ended(lines ...string) string {
	var b strings.Builder
	for _, line := range lines {
		b.WriteString(line + "\n")
	}
	return b.String()
}

func short(lines []string) string { return cut(fmt.Sprintf("%q", lines)) }

func cut(text string) string {
	if len(text) > 300 {
		return text[:300] + " .."
	}
	return text
}

func list(lines ...string) []string { return lines }

// sheetOf is the lines that write a text.
func sheetOf(text string) []string {
	lines := strings.Split(text, "\n")
	for i := range lines {
		lines[i] = "|" + lines[i]
	}
	return lines
}

// deskOf is a desk with the lines of a text that is a module.
func deskOf(t *testing.T, text string) *Desk {
	t.Helper()
	d := New()
	got, fault := d.Do(append(sheetOf(text), "read"))
	if !strings.HasPrefix(got, "yes ") || fault != (api.Fault{}) {
		t.Fatalf("%s: read tells %q, %v", cut(text), got, fault)
	}
	return d
}

// Modules: echo tells what comes in till nothing more does; five gives back a 5.
const (
	echo     = "func 0 () -> () { block 0 () { in; out 0; jump 0 <> (); } }"
	five     = "func 0 () -> (int) { block 0 () { num 5; ret (0); } }"
	fiveText = "func 0 () -> (int) {\nblock 0 () {\n\tnum 5;\n\tret (0);\n}\n}"
	six      = "func 0 () -> (int) { block 0 () { num 6; ret (0); } }"
	sixText  = "func 0 () -> (int) {\nblock 0 () {\n\tnum 6;\n\tret (0);\n}\n}"
)

func TestTheFirstExample(t *testing.T) {
	d := New()
	wantTold(t, d, list("|func 0 () -> (int) {", "|block 0 () { in; out 0; ret (0); } }", "read", "run 9 0 7", "run 9 0", "print", "trim", "run 5 65", "run 5", "x"),
		"yes 1", "halt 7", "out 7", "steps 3", "input", "out", "steps 1",
		"func 0 () -> (int) {\nblock 0 () {\n\tin;\n\tout 0;\n\tret (0);\n}\n}",
		"yes 1", "no 1 -1", "what", "what")
}

func TestNewHasNothing(t *testing.T) {
	if d := New(); d == nil {
		t.Fatal("New = nil")
	}
	wantTold(t, New(), list("print", "bytes", "trim", "run 1 1"), "what", "what", "what", "what")
	wantTold(t, New(), list("read"), "no 2 -1")
	wantTold(t, New(), list("new"))
}

// How many lines there may be

func TestNoLinesTellNothing(t *testing.T) {
	for _, d := range []*Desk{New(), deskOf(t, five)} {
		wantTold(t, d, nil)
		wantTold(t, d, []string{})
		wantTold(t, d, make([]string, 0, 5))
	}
	d := deskOf(t, five)
	wantTold(t, d, nil)
	wantTold(t, d, list("print", "read"), fiveText, "yes 1")
}

func TestAsManyLinesAsThereMayBe(t *testing.T) {
	for _, n := range []int{1, 2, 199, 200} {
		wantTold(t, New(), slices.Repeat(list("x"), n), slices.Repeat(list("what"), n)...)
		wantTold(t, New(), slices.Repeat(list(""), n))
		wantTold(t, New(), append(slices.Repeat(list("|"), n-1), "read"), "no 2 -1")
	}
	lines := append(sheetOf(five), "read")
	lines = append(lines, slices.Repeat(list("print"), api.MaxLines-len(lines))...)
	wantTold(t, New(), lines, append(list("yes 1"), slices.Repeat(list(fiveText), api.MaxLines-2)...)...)
}

func TestTooManyLines(t *testing.T) {
	for _, n := range []int{201, 202, 256, 300, 400, 1000, 65536, 65537} {
		for _, line := range []string{"", "x", "|", "read", "a\nb", "|a\nb", "\n"} {
			wantDo(t, New(), slices.Repeat(list(line), n), "", api.Fault{Code: api.ErrMany, At: -1})
		}
	}
}

// leaves: the desk has its module and its lines, and nothing else.
func leaves(t *testing.T, lines []string, fault api.Fault) {
	t.Helper()
	d := New()
	wantTold(t, d, append(sheetOf(five), "read", "new", "|x"), "yes 1")
	wantDo(t, d, lines, "", fault)
	wantTold(t, d, list("print", "read"), fiveText, "no 4 0")
	d = deskOf(t, six)
	wantDo(t, d, lines, "", fault)
	wantTold(t, d, list("print", "read", "print"), sixText, "yes 1", sixText)
	d = New()
	wantDo(t, d, lines, "", fault)
	wantTold(t, d, list("print", "read"), "what", "no 2 -1")
}

func TestWithTooManyLinesNothingIsDone(t *testing.T) {
	many := api.Fault{Code: api.ErrMany, At: -1}
	for _, ahead := range [][]string{{"new"}, {"|"}, {"|y", "read"}, {"new", "read"}, {"trim"}, {"new", "|" + echo, "read"}} {
		leaves(t, append(ahead, slices.Repeat(list(""), 201-len(ahead))...), many)
		leaves(t, append(slices.Repeat(list(""), 201-len(ahead)), ahead...), many)
		leaves(t, append(slices.Repeat(list("a\nb"), 201-len(ahead)), ahead...), many)
	}
}

// Lines with a newline in them

func TestALineWithANewline(t *testing.T) {
	for _, line := range []string{"\n", "a\nb", "a\n", "\nb", "|\n", "|a\nb", "|\n|", " \n", "read\n", "\nread", "new\nnew", "run 1\n1", "print\r\n", "\n\n", "\x00\n", "\xff\n", strings.Repeat("x", 5000) + "\n"} {
		for _, at := range []int{0, 1, 2, 17, 198, 199} {
			lines := append(slices.Repeat(list("x"), at), line)
			wantDo(t, New(), lines, "", api.Fault{Code: api.ErrLine, At: at})
			lines = append(lines, slices.Repeat(list(line), api.MaxLines-len(lines))...)
			wantDo(t, New(), lines, "", api.Fault{Code: api.ErrLine, At: at})
		}
	}
}

func TestTheFirstOfSeveralWithANewline(t *testing.T) {
	wantDo(t, New(), list("", "x", "y\n", "z\nz", "\n"), "", api.Fault{Code: api.ErrLine, At: 2})
	wantDo(t, New(), list("x", "|\n", "y", "\n\n"), "", api.Fault{Code: api.ErrLine, At: 1})
	wantDo(t, New(), list("\n", "\n"), "", api.Fault{Code: api.ErrLine, At: 0})
}

func TestBesideTooManyLinesANewlineIsNotTold(t *testing.T) {
	lines := slices.Repeat(list("x"), 201)
	for _, at := range []int{0, 5, 199, 200} {
		spoilt := slices.Clone(lines)
		spoilt[at] = "a\nb"
		wantDo(t, New(), spoilt, "", api.Fault{Code: api.ErrMany, At: -1})
		wantDo(t, New(), spoilt[:200], strings.Repeat("what\n", 200*(at/200)), lineFault(at))
	}
}

// lineFault is that of 200 lines with a newline in one of them, if it is among them.
func lineFault(at int) api.Fault {
	if at < 200 {
		return api.Fault{Code: api.ErrLine, At: at}
	}
	return api.Fault{}
}

func TestWithANewlineNothingIsDone(t *testing.T) {
	for _, ahead := range [][]string{{"new"}, {"|"}, {"|y", "read"}, {"new", "read"}, {"trim"}, {"new", "|" + echo, "read"}} {
		leaves(t, append(slices.Clone(ahead), "\n"), api.Fault{Code: api.ErrLine, At: len(ahead)})
		leaves(t, append(list("|\n"), ahead...), api.Fault{Code: api.ErrLine, At: 0})
		leaves(t, append(append(slices.Clone(ahead), "a\nb"), ahead...), api.Fault{Code: api.ErrLine, At: len(ahead)})
	}
}

func TestOtherSignsAreNoNewline(t *testing.T) {
	for _, line := range []string{"\r", "\v", "\f", "\x00", "\x85", "\u0085", "\u2028", "\u2029", "\\n", "a\rb", "\x8a"} {
		wantTold(t, New(), list(line), "what")
		wantTold(t, New(), list("|"+line))
	}
}

func TestNothingBehindTheLinesIsRead(t *testing.T) {
	lines := list("x", "", "a\nb", "|x", "new")
	wantTold(t, New(), lines[:2], "what")
	if !slices.Equal(lines, list("x", "", "a\nb", "|x", "new")) {
		t.Errorf("the lines were changed: %q", lines)
	}
	all := slices.Repeat(list("\n"), 300)
	all[0] = "read"
	wantTold(t, New(), all[:1], "no 2 -1")
}
