package desk

import (
	"fmt"
	"math"
	"slices"
	"strings"
	"testing"

	"copyhold/api"
)

// wantRun: a run of a module tells those three lines, and changes nothing of the desk.
func wantRun(t *testing.T, text, line string, told ...string) {
	t.Helper()
	d := deskOf(t, text)
	printed, _ := d.Do(list("print", "bytes"))
	wantTold(t, d, list(line), told...)
	wantTold(t, d, list(line, line), append(slices.Clone(told), told...)...)
	wantDo(t, d, list("print", "bytes"), printed, api.Fault{})
	wantDo(t, d, list("read", "print", "bytes"), fmt.Sprintln("yes", strings.Count(text, "func"))+printed, api.Fault{})
}

// only is a module of one function of one block, which gives back so many numbers.
func only(results int, code string) string {
	ints := strings.TrimSuffix(strings.Repeat("int, ", results), ", ")
	return "func 0 () -> (" + ints + ") { block 0 () { " + code + " } }"
}

// How runs end

func TestARunThatHalts(t *testing.T) {
	wantRun(t, only(0, "ret ();"), "run 1 0", "halt", "out", "steps 1")
	wantRun(t, only(1, "num 7; ret (0);"), "run 9 0", "halt 7", "out", "steps 2")
	wantRun(t, only(8, "num 7; num -8; ret (0, 1, 1, 0, 0, 0, 0, 1);"), "run 9 0", "halt 7 -8 -8 7 7 7 7 -8", "out", "steps 3")
	wantRun(t, only(0, "num 7; out 0; ret ();"), "run 9 0", "halt", "out 7", "steps 3")
	wantRun(t, only(0, "num 7; num -9; out 0; out 1; out 1; ret ();"), "run 9 0", "halt", "out 7 -9 -9", "steps 6")
	wantRun(t, only(2, "num 7; in; out 1; out 0; ret (0, 1);"), "run 9 0 3", "halt 7 3", "out 3 7", "steps 5")
	wantRun(t, only(2, "num -9223372036854775808; num 9223372036854775807; out 1; out 0; ret (0, 1);"), "run 9 0", "halt -9223372036854775808 9223372036854775807", "out 9223372036854775807 -9223372036854775808", "steps 5")
	wantRun(t, only(1, "num 0; out 0; ret (0);"), "run 9 0", "halt 0", "out 0", "steps 3")
}

func TestARunThatEndsOtherwise(t *testing.T) {
	wantRun(t, only(1, "num 0; out 0; bin div 0 0; ret (0);"), "run 9 0", "divide", "out 0", "steps 3")
	wantRun(t, only(1, "num 0; bin mod 0 0; ret (0);"), "run 9 0", "divide", "out", "steps 2")
	wantRun(t, only(1, "new; num 3; array 0 1; out 1; load 2 1; free 0; ret (1);"), "run 9 1", "index", "out 3", "steps 5")
	wantRun(t, only(1, "new; num 16; array 0 1; free 0; ret (1);"), "run 9 1", "length", "out", "steps 3")
	wantRun(t, only(1, "in; out 0; in; ret (0);"), "run 9 1 8", "input", "out 8", "steps 3")
	wantRun(t, only(0, "num 4; out 0; call 0 <> (); ret ();"), "run 999 0", "depth", "out"+strings.Repeat(" 4", api.MaxFrames), fmt.Sprint("steps ", 3*api.MaxFrames))
	wantRun(t, only(0, "new; num 6; out 1; tuple 0 (1); free 0; ret ();"), "run 9 0", "memory", "out 6", "steps 4")
	wantRun(t, only(0, "new; jump 1 <0> (0); } block 1 (handle 0) { new; free 1; jump 1 <0> (0);"), "run 17 0", "fuel", "out", "steps 17")
	wantRun(t, only(0, "jump 0 <> ();"), "run 20000 64", "fuel", "out", "steps 20000")
	wantRun(t, only(0, "ret ();"), "run 0 0", "fuel", "out", "steps 0")
	wantRun(t, only(1, "num 5; out 0; ret (0);"), "run 2 0", "fuel", "out 5", "steps 2")
	full := "out" + strings.Repeat(" -1", api.MaxOutput)
	wantRun(t, only(0, "num -1; jump 1 <> (0); } block 0 (int) { out 0; jump 1 <> (0);"), "run 9999 0", "output", full, fmt.Sprint("steps ", 3+2*api.MaxOutput))
}

func TestAllRegionsAreTaken(t *testing.T) {
	code := strings.Repeat("new; ", api.MaxRegions) + "num 2; out 16; call 1 <> (); "
	for n := range api.MaxRegions {
		code += fmt.Sprint("free ", n, "; ")
	}
	text := only(0, code+"ret ();") + " " + only(0, "new; free 0; ret ();")
	wantRun(t, text, "run 99 64", "memory", "out 2", fmt.Sprint("steps ", api.MaxRegions+4))
}

// Numbers

// notShort are no numbers of 64 bits that are as short as can be.
func notShort() []string {
	return []string{
		"+7", "+0", "-0", "00", "07", "-07", "000", "-00", "0000000000000000000000007", "--7", "-+7", "+-7", "-", "+", "7-", "7+", "- 7x",
		"0x7", "0b1", "0o7", "1_0", "1e3", "7.", "7.0", ".7", "7,", "7;", "(7)", "x", "7x", "x7", "seven", "NaN", "inf", "|", "|7", "#7", "'7'", "７", "٧", "7\t", "\t7", "7\x00", "\xff", "−7", "1 000x",
		"9223372036854775808", "-9223372036854775809", "9223372036854775817", "18446744073709551615", "18446744073709551616", "18446744073709551623", "-18446744073709551609", "99999999999999999999", "-99999999999999999999", strings.Repeat("9", 400), "1" + strings.Repeat("0", 64),
	}
}

func TestNumbersThatAreNone(t *testing.T) {
	d := deskOf(t, echo)
	for _, n := range notShort() {
		for _, line := range []string{"run % 0", "run 9 %", "run 9 0 %", "run 9 0 % 1", "run 9 0 1 %", "run 9 0 1 % 1", "run % %", "run % 0 1", "run %", "run -1 %", "run % 65", "run 20001 65 %"} {
			wantTold(t, d, list(strings.ReplaceAll(line, "%", n)), "what")
		}
		wantTold(t, d, list("run 9 0 1"), "input", "out 1", "steps 4")
	}
	all := strings.Repeat(" 1", api.MaxInput)
	wantTold(t, d, list("run 9 0"+all+" 01", "run 9 0 01"+all, "run 9 0"+all+" x"), "what", "what", "what")
}

func TestNumbersThatAreRight(t *testing.T) {
	for _, n := range []string{"0", "1", "-1", "9", "10", "-10", "100", "4294967296", "-4294967297", "9223372036854775807", "-9223372036854775808", "9223372036854775806", "-9223372036854775807", "1000000000000000000"} {
		wantRun(t, echo, "run 99 0 "+n, "input", "out "+n, "steps 4")
		wantRun(t, echo, "run 99 0 "+n+" 5 "+n, "input", "out "+n+" 5 "+n, "steps 10")
	}
	wantRun(t, echo, "run 99 0", "input", "out", "steps 1")
}

func TestFuelAndPagesInTheirPlaces(t *testing.T) {
	loop := only(0, "jump 0 <> ();")
	for _, fuel := range []int{0, 1, 2, 9, 10, 64, 65, 1000, 19999, 20000} {
		for _, pages := range []int{0, 1, 64} {
			wantTold(t, deskOf(t, loop), list(fmt.Sprint("run ", fuel, " ", pages)), "fuel", "out", fmt.Sprint("steps ", fuel))
		}
	}
	// an array of 15 numbers takes a page
	pages := only(0, "new; num 15; jump 1 <0> (0, 1); } block 1 (handle 0, int) { out 1; array 0 1; jump 1 <0> (0, 1);")
	for _, n := range []int{0, 1, 2, 10, 63, 64} {
		wantTold(t, deskOf(t, pages), list(fmt.Sprint("run 20000 ", n)), "memory", "out"+strings.Repeat(" 15", n+1), fmt.Sprint("steps ", 3*n+5))
	}
}

func TestFuelAndPagesOutOfRange(t *testing.T) {
	d := deskOf(t, echo)
	outside := []int{-1, -2, 1 << 31, 1 << 32, 1<<32 + 1, -1 << 31, -1 << 32, math.MinInt64, math.MinInt64 + 1, math.MaxInt64, math.MaxInt64 - 1}
	for _, n := range append(outside, 20001, 20002) {
		wantTold(t, d, list(fmt.Sprint("run ", n, " 0"), fmt.Sprint("run ", n, " 64 1 2")), "no 1 -1", "no 1 -1")
	}
	for _, n := range append(outside, 65, 66, 20000) {
		wantTold(t, d, list(fmt.Sprint("run 9 ", n), fmt.Sprint("run 0 ", n, " 1 2"), fmt.Sprint("run -1 ", n)), "no 1 -1", "no 1 -1", "no 1 -1")
	}
	wantTold(t, d, list("run 4 64 1", "print"), "input", "out 1", "steps 4", "func 0 () -> () {\nblock 0 () {\n\tin;\n\tout 0;\n\tjump 0 <> ();\n}\n}")
}

func TestHowMuchMayComeIn(t *testing.T) {
	for _, n := range []int{1, 2, 199, 200} {
		all := strings.Repeat(" -3", n)
		wantRun(t, echo, "run 20000 0"+all, "input", "out"+all, fmt.Sprint("steps ", 3*n+1))
	}
	for _, n := range []int{201, 202, 256, 400, 65536, 65537} {
		wantRun(t, echo, "run 20000 0"+strings.Repeat(" -3", n), "no 1 -1")
	}
}

func TestRunsChangeNothing(t *testing.T) {
	d := deskOf(t, "func 0 () -> (int) { block 0 () { new; in; tuple 0 (1); get 2 0; out 3; set 2 0 1; free 0; ret (3); } }")
	wantTold(t, d, list("run 99 1 5", "run 99 1 6", "run 99 0 5", "run 3 1 5", "run 99 1", "run -1 1", "run x", "run 99 1 5"),
		"halt 5", "out 5", "steps 8", "halt 6", "out 6", "steps 8", "memory", "out", "steps 3", "fuel", "out", "steps 3", "input", "out", "steps 2", "no 1 -1", "what", "halt 5", "out 5", "steps 8")
}

// Ends

func TestEnds(t *testing.T) {
	for end, want := range map[int]string{
		0: "halt", 1: "divide", 2: "index", 3: "length", 4: "input", 5: "depth", 6: "memory", 7: "fuel", 8: "output",
		9: "", 10: "", -1: "", -2: "", -8: "", 16: "", 255: "", 256: "", 257: "", 1 << 31: "", 1 << 32: "", 1<<32 + 1: "", -1 << 32: "",
		math.MaxInt: "", math.MinInt: "", math.MinInt + 1: "", math.MaxInt - 1: "",
	} {
		if got := Ends(end); got != want {
			t.Errorf("Ends(%d) = %q, want %q", end, got, want)
		}
	}
	for n := 9; n < 3000; n++ {
		if Ends(n) != "" || Ends(-n) != "" {
			t.Errorf("Ends(%d) = %q, Ends(%d) = %q", n, Ends(n), -n, Ends(-n))
		}
	}
	for end, want := range map[int]string{
		api.EndHalt: "halt", api.EndDivide: "divide", api.EndIndex: "index", api.EndLength: "length", api.EndInput: "input",
		api.EndDepth: "depth", api.EndMemory: "memory", api.EndFuel: "fuel", api.EndOutput: "output",
	} {
		if got := Ends(end); got != want {
			t.Errorf("Ends(%d) = %q, want %q", end, got, want)
		}
	}
}
