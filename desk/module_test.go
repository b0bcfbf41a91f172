package desk

import (
	"fmt"
	"hash/crc32"
	"slices"
	"strings"
	"testing"

	"copyhold/api"
	"copyhold/codec"
	"copyhold/parse"
	"copyhold/render"
	"copyhold/verify"
)

// sumOfAll is the sum of all bytes of any module: those of a sum that stand behind what it is of make it always the same.
const sumOfAll = 0x2144DF1C

func moduleOf(t *testing.T, text string) api.Module {
	t.Helper()
	m, fault := parse.Parse(text)
	if fault.Code == 0 {
		fault = verify.Check(m)
	}
	if fault.Code != 0 {
		t.Fatalf("%s: no module that may be run: %v", cut(text), fault)
	}
	return m
}

// read

func TestReadTellsHowManyFunctions(t *testing.T) {
	for n := 1; n <= api.MaxFuncs; n++ {
		text := strings.Repeat("func 0 () -> () { block 0 () { ret (); } }\n", n)
		wantTold(t, New(), append(sheetOf(text), "read"), fmt.Sprint("yes ", n))
	}
	text := strings.Repeat("func 0 () -> () { block 0 () { ret (); } }\n", api.MaxFuncs+1)
	wantTold(t, New(), append(sheetOf(text), "read"), "no 2 -1")
}

func TestReadOfATextInManyLines(t *testing.T) {
	words := strings.Fields(five)
	wantTold(t, New(), append(sheetOf(strings.Join(words, "\n")), "read", "print"), "yes 1", fiveText)
	wantTold(t, New(), append(sheetOf("\n\n"+strings.Join(words, "\n\n # x\n")+"\n"), "read", "print"), "yes 1", fiveText)
	wantTold(t, New(), append(sheetOf(fiveText+"\n"), "read", "print"), "yes 1", fiveText)
}

// faulty are texts that are no modules that may be run, and what a reading tells.
func faulty() map[string]string {
	body := func(code string) string { return "func 0 () -> () { block 0 () { " + code + " } }" }
	return map[string]string{
		"":                          "no 2 -1",
		"\n\n":                      "no 2 -1",
		"# func":                    "no 2 -1",
		"func 0 () -> () {\n\n$":    "no 6 19",
		"func 0 () -> () { BLOCK":   "no 6 18",
		"- 5":                       "no 6 0",
		"func 007":                  "no 8 5",
		"func\n9223372036854775808": "no 8 5",
		"func -0":                   "no 8 5",
		"func -1":                   "no 8 5",
		"func 1000001":              "no 8 5",
		"func func":                 "no 4 5",
		"block 0 () { ret (); }":    "no 4 0",
		"func 0\n() ->\n(int) x":    "no 4 19",
		"func 0\n() ->\n(int)":      "no 5 18",
		"func":                      "no 5 4",
		five + "\nfunc":             "no 5 58",
		"func 0 (tuple 0 (tuple 0 (tuple 0 (tuple 0 (tuple 0 (tuple":   "no 19 53",
		body("tuple 0 (" + strings.Repeat("0, ", 100) + "0); ret ();"): "no 2 341",
		"func 0 () -> () { }":                                     "no 2 9999",
		"func 7 () -> () { block 7 () { ret (); } }":              "no 1 9999",
		"func 0 (int) -> () { block 0 (int) { ret (); } }":        "no 18 9999",
		"func 1 () -> () { block 1 () { ret (); } }":              "no 18 9999",
		body("jump 1 <> ();"):                                     "no 1 91",
		body("call 1 <> (); ret ();"):                             "no 1 0",
		body("num 1; get 0 8; ret ();"):                           "no 1 1",
		body("ret ();") + body("num 1; num 1; get 0 9; ret ();"):  "no 1 10002",
		body("ret (0);"):                                          "no 2 91",
		body("num 1; num 1; free 0; ret ();"):                     "no 9 2",
		body("new; ret ();"):                                      "no 12 91",
		body("new; num 1; tuple 0 (1); free 0; get 2 0; ret ();"): "no 10 4",
		body("new; free 0; free 0; ret ();"):                      "no 10 2",
		five + "func 0 () -> () { block 0 () { jump 1 <> (); } block 0 () { new; ret (); } }": "no 12 10191",
	}
}

func TestReadOfTextsWithFaults(t *testing.T) {
	for text, told := range faulty() {
		m, fault := parse.Parse(text)
		if fault.Code == 0 {
			fault = verify.Check(m)
		}
		if want := fmt.Sprint("no ", fault.Code, " ", fault.At); told != want {
			t.Errorf("%q is %s here, and %s as parse and verify tell", text, told, want)
		}
		wantTold(t, New(), append(sheetOf(text), "read", "print"), told, "what")
		// there is no module any more, and the lines stay
		d := deskOf(t, five)
		wantTold(t, d, append(append(list("new"), sheetOf(text)...), "print", "read", "print", "bytes", "trim", "run 9 0", "read"), fiveText, told, "what", "what", "what", "what", told)
		wantTold(t, d, list("new", "|"+six, "read", "print"), "yes 1", sixText)
	}
}

func TestAFaultThatIsMended(t *testing.T) {
	d := New()
	wantTold(t, d, list("|func 0 () -> (int) {", "read", "|block 0 () { num 5;", "read", "print", "| ret (0); } }", "read", "print"),
		"no 5 20", "no 5 40", "what", "yes 1", fiveText)
	wantTold(t, d, list("|x", "read", "|"+six, "read", "print", "new", "read", "|"+six, "read"),
		"no 4 55", "no 4 55", "what", "no 2 -1", "yes 1")
}

func TestReadAgain(t *testing.T) {
	d := deskOf(t, five)
	wantTold(t, d, list("read", "read", "print"), "yes 1", "yes 1", fiveText)
	wantTold(t, d, list("|"+six), nil...)
	wantTold(t, d, list("print", "read", "print"), fiveText, "yes 2", fiveText+"\n"+sixText)
	wantTold(t, d, list("|"+six, "|"+five, "run 9 0", "read", "run 9 0", "new", "|"+six, "run 9 0", "read", "run 9 0"),
		"halt 5", "out", "steps 2", "yes 4", "halt 5", "out", "steps 2", "halt 5", "out", "steps 2", "yes 1", "halt 6", "out", "steps 2")
}

// As long as a text may be, and longer

// wantLong: lines of a module with a remark, of so many bytes with the newlines between, tell what parse tells of them.
func wantLong(t *testing.T, lines []string) {
	t.Helper()
	text := strings.Join(lines, "\n")
	told := "yes 1"
	if len(text) > api.MaxText {
		told = "no 2 40000"
	}
	d := New()
	for part := range slices.Chunk(sheetOf(text), api.MaxLines) {
		wantTold(t, d, part)
	}
	wantTold(t, d, list("read"), told)
	if len(text) > api.MaxText {
		// it stays so, whatever comes behind
		wantTold(t, d, list("|", "|x", "|"+strings.Repeat("x", 50000), "read", "print"), told, "what")
	} else {
		wantTold(t, d, list("print"), fiveText)
	}
	wantTold(t, d, list("new", "read", "|"+six, "read", "print"), "no 2 -1", "yes 1", sixText)
}

func TestALongText(t *testing.T) {
	for _, more := range []int{-5, -2, -1, 0, 1, 2, 3, 4, 5, 10, 1000, 40000, 70000} {
		fill := api.MaxText - len(five) - 1 + more // the newline behind five, too
		remark := func(n int) string { return "#" + strings.Repeat("x", n-1) }
		wantLong(t, list(five, remark(fill)))
		wantLong(t, list(remark(fill), five))
		wantLong(t, list(five, remark(fill-1), ""))
		wantLong(t, list(five, remark(fill-2), "", ""))
		wantLong(t, list("", remark(fill-1), five))
		wantLong(t, list(five, remark(fill-2), "#"))
		wantLong(t, list(five+strings.Repeat(" ", fill-1), ""))
		wantLong(t, list(five+strings.Repeat(" ", fill), ""))
	}
	wantLong(t, append(list(five), slices.Repeat(list(""), api.MaxText-len(five))...))
	wantLong(t, append(list(five), slices.Repeat(list(""), api.MaxText-len(five)+1)...))
	wantLong(t, append(slices.Repeat(list(""), api.MaxText-len(five)), five))
	wantLong(t, append(slices.Repeat(list(""), api.MaxText-len(five)+1), five))
}

func TestNoMoreIsKeptThanIsNeeded(t *testing.T) {
	d := New()
	for range 20 {
		wantTold(t, d, slices.Repeat(list("|"+strings.Repeat("x", 10000)), 20))
	}
	if n := cap(d.lines); n > 4*api.MaxText {
		t.Errorf("%d bytes are kept", n)
	}
	wantTold(t, d, list("read", "new"), "no 2 40000")
	if n := cap(d.lines); n > 0 {
		t.Errorf("%d bytes are kept behind new", n)
	}
}

// new

func TestNewLeavesTheModule(t *testing.T) {
	d := deskOf(t, five)
	wantTold(t, d, list("new", "new", "print", "bytes", "run 9 0", "trim", "print"), fiveText, fmt.Sprint("bytes 21 ", sumOfAll), "halt 5", "out", "steps 2", "yes 1", fiveText)
	wantTold(t, d, list("read", "print"), "no 2 -1", "what")
	wantTold(t, d, list("|x", "new", "|"+five, "new", "|"+six, "read", "print"), "yes 1", sixText)
}

// print

func TestPrint(t *testing.T) {
	text := "func 0 () -> (int, int) { block 0 () { new; num -12; tuple 0 (1); call 1 <0> (2, 0); free 0; if 1 to 1 <> (3) else 1 <> (1); } block 0 (int) { ret (0, 0); } }" +
		" func 1 (tuple 0 (int), handle 0) -> (int) { block 1 (tuple 0 (int), handle 0) { get 0 0; ret (2); } }"
	printed := "func 0 () -> (int, int) {\nblock 0 () {\n\tnew;\n\tnum -12;\n\ttuple 0 (1);\n\tcall 1 <0> (2, 0);\n\tfree 0;\n\tif 1 to 1 <> (3) else 1 <> (1);\n}\nblock 0 (int) {\n\tret (0, 0);\n}\n}\n" +
		"func 1 (tuple 0 (int), handle 0) -> (int) {\nblock 1 (tuple 0 (int), handle 0) {\n\tget 0 0;\n\tret (2);\n}\n}"
	d := deskOf(t, text)
	wantTold(t, d, list("print", "x", "print"), printed, "what", printed)
	// what was printed is read as the same
	wantTold(t, d, append(append(list("new"), sheetOf(printed)...), "read", "print"), "yes 2", printed)
}

// crowded is a module whose text has all but no blanks: with those of a printed one it is too long.
func crowded() string {
	var b strings.Builder
	for range api.MaxFuncs - 1 {
		b.WriteString("func 0()->(){")
		for range api.MaxBlocks {
			b.WriteString("block 0(){" + strings.Repeat("num 12345;", api.MaxCode) + "ret();}")
		}
		b.WriteString("}")
	}
	return b.String()
}

func TestAPrintThatCanNotBe(t *testing.T) {
	text := crowded()
	if _, fault := render.Print(moduleOf(t, text)); fault != (api.Fault{Code: api.ErrMany, At: -1}) {
		t.Fatalf("Print = %v", fault)
	}
	d := deskOf(t, text)
	wantTold(t, d, list("print", "print", "x"), "no 2 -1", "no 2 -1", "what")
	// the module stays
	wantTold(t, d, list("run 99 0", "read", "print"), "halt", "out", "steps 41", "yes 7", "no 2 -1")
	// and what is left of it can be printed
	only := "func 0 () -> () {\nblock 0 () {\n" + strings.Repeat("\tnum 12345;\n", api.MaxCode) + "\tret ();\n}\n}"
	wantTold(t, d, list("trim", "print", "run 99 0", "read", "print"), "yes 1", only, "halt", "out", "steps 41", "yes 7", "no 2 -1")
}

// bytes

// wantBytes: the desk tells how many bytes there are of its module, and their sum.
func wantBytes(t *testing.T, d *Desk, m api.Module) {
	t.Helper()
	b, fault := codec.Encode(m)
	if fault.Code != 0 {
		t.Fatalf("Encode = %v", fault)
	}
	wantTold(t, d, list("bytes"), fmt.Sprint("bytes ", len(b), " ", crc32.ChecksumIEEE(b)))
}

func TestBytes(t *testing.T) {
	d := deskOf(t, "func 0 () -> () { block 0 () { num -65; ret (); } }")
	b := []byte{67, 72, 1, 2, 0, 0, 0, 2, 0, 0, 2, 2, 129, 1, 6, 0}
	wantTold(t, d, list("bytes", " bytes "), fmt.Sprint("bytes ", len(b)+4, " 558161692"), fmt.Sprint("bytes ", len(b)+4, " 558161692"))
	for _, text := range []string{five, six, echo, crowdedCalls(3), strings.Repeat(five, 8)} {
		wantBytes(t, deskOf(t, text), moduleOf(t, text))
	}
}

// crowdedCalls is a module of so many blocks with calls of many arguments, each of two bytes: one of many blocks has too many bytes.
func crowdedCalls(blocks int) string {
	var b strings.Builder
	b.WriteString("func 0()->(){block 0(){ret();}}")
	b.WriteString("func 0()->(" + strings.Repeat("int,", 7) + "int){block 0(){num 1;ret(0,0,0,0,0,0,0,0);}}")
	b.WriteString("func 0(" + strings.Repeat("int,", 7) + "int)->(){block 0(" + strings.Repeat("int,", 7) + "int){ret();}}")
	for n := range blocks {
		if n%api.MaxBlocks == 0 {
			b.WriteString("func 0()->(){")
		}
		b.WriteString("block 0(){" + strings.Repeat("call 1<>();", 9) + strings.Repeat("call 2<>(64,65,66,67,68,69,70,71);", 31) + "ret();}")
		if (n+1)%api.MaxBlocks == 0 || n+1 == blocks {
			b.WriteString("}")
		}
	}
	return b.String()
}

func TestBytesThatCanNotBe(t *testing.T) {
	text := crowdedCalls(33)
	if _, fault := codec.Encode(moduleOf(t, text)); fault != (api.Fault{Code: api.ErrMany, At: -1}) {
		t.Fatalf("Encode = %v", fault)
	}
	d := deskOf(t, text)
	wantTold(t, d, list("bytes", "run 9 0", "bytes"), "no 2 -1", "halt", "out", "steps 1", "no 2 -1")
	wantTold(t, d, list("trim", "bytes", "read", "bytes"), "yes 1", fmt.Sprint("bytes 17 ", sumOfAll), "yes 6", "no 2 -1")
}

// trim

func TestTrim(t *testing.T) {
	text := "func 0 () -> (int) { block 0 () { call 2 <> (); jump 2 <> (0); } block 0 () { call 1 <> (); jump 0 <> (); } block 0 (int) { ret (0); } }" +
		" func 0 () -> () { block 0 () { ret (); } } func 0 () -> (int) { block 0 () { num 5; ret (0); } }"
	printed := "func 0 () -> (int) {\nblock 0 () {\n\tcall 2 <> ();\n\tjump 2 <> (0);\n}\nblock 0 () {\n\tcall 1 <> ();\n\tjump 0 <> ();\n}\nblock 0 (int) {\n\tret (0);\n}\n}\nfunc 0 () -> () {\nblock 0 () {\n\tret ();\n}\n}\n" + fiveText
	trimmed := "func 0 () -> (int) {\nblock 0 () {\n\tcall 1 <> ();\n\tjump 1 <> (0);\n}\nblock 0 (int) {\n\tret (0);\n}\n}\n" + fiveText
	d := deskOf(t, text)
	wantTold(t, d, list("print", "run 9 0", "trim", "print", "run 9 0"), printed, "halt 5", "out", "steps 5", "yes 2", trimmed, "halt 5", "out", "steps 5")
	wantBytes(t, d, moduleOf(t, trimmed))
	wantTold(t, d, list("trim", "trim", "print"), "yes 2", "yes 2", trimmed)
	// the lines are as they were
	wantTold(t, d, list("read", "print"), "yes 3", printed)
	wantBytes(t, d, moduleOf(t, text))
	wantTold(t, d, list("trim", "new", "print", "trim", "read", "trim"), "yes 2", trimmed, "yes 2", "no 2 -1", "what")
}

func TestTrimWithNothingToGo(t *testing.T) {
	d := deskOf(t, five)
	wantTold(t, d, list("trim", "print", "read", "print"), "yes 1", fiveText, "yes 1", fiveText)
	d = deskOf(t, five+six)
	wantTold(t, d, list("trim", "print", "read", "print"), "yes 1", fiveText, "yes 2", fiveText+"\n"+sixText)
}
