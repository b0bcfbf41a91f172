package token

import (
	"fmt"
	"math"
	"reflect"
	"strconv"
	"strings"
	"testing"
	"unsafe"

	"copyhold/api"
)

const (
	blanks = " \t\r\n"
	signs  = "(){}<>,;"
	digits = "0123456789"
	lower  = "abcdefghijklmnopqrstuvwxyz"
)

func word(at int, text string) Token { return Token{At: at, Text: text} }
func sign(at int, text string) Token { return Token{At: at, Text: text} }

func number(at int, text string, n int64) Token {
	return Token{At: at, Text: text, Num: true, N: n}
}

// allSigns has each sign once, the longest one too.
func allSigns() []string { return append(strings.Split(signs, ""), "->") }

// between has what may stand between two tokens that need nothing there.
func between() []string {
	return []string{"", " ", "\t", "\r", "\n", "  \t\t\r\r\n\n", "\r\n", "#\n", "# remark; (\n", " #a\n#b\n\t", "#1\n\n#2\n", "#\r\n"}
}

func wantScan(t *testing.T, src string, want ...Token) {
	t.Helper()
	got, fault := Scan(src)
	if fault != (api.Fault{}) {
		t.Errorf("Scan(%s): fault %v, want none", short(src), fault)
	}
	if len(got)+len(want) > 0 && !reflect.DeepEqual(got, want) {
		t.Errorf("Scan(%s) = %s, want %s", short(src), short(fmt.Sprint(got)), short(fmt.Sprint(want)))
	}
}

func wantFault(t *testing.T, src string, code, at int) {
	t.Helper()
	got, fault := Scan(src)
	if want := (api.Fault{Code: code, At: at}); fault != want {
		t.Errorf("Scan(%s): fault %v, want %v", short(src), fault, want)
	}
	if len(got) != 0 {
		t.Errorf("Scan(%s): %d tokens beside a fault", short(src), len(got))
	}
}

// short keeps what a test tells to a line.
func short(s string) string {
	if len(s) > 300 {
		return fmt.Sprintf("%q and %d more", s[:300], len(s)-300)
	}
	return strconv.Quote(s)
}

// words, numbers, signs

func TestWords(t *testing.T) {
	wantScan(t, "jump", word(0, "jump"))
	wantScan(t, "a", word(0, "a"))
	wantScan(t, lower, word(0, lower))
	wantScan(t, "func tuple x", word(0, "func"), word(5, "tuple"), word(11, "x"))
	for i := range lower {
		wantScan(t, lower[i:i+1], word(0, lower[i:i+1]))
	}
}

func TestNumbers(t *testing.T) {
	wantScan(t, "7", number(0, "7", 7))
	wantScan(t, "-5", number(0, "-5", -5))
	wantScan(t, "1234567890", number(0, "1234567890", 1234567890))
	wantScan(t, "-9876543210", number(0, "-9876543210", -9876543210))
	wantScan(t, "1 -2 30", number(0, "1", 1), number(2, "-2", -2), number(5, "30", 30))
	for n := int64(-1200); n <= 1200; n++ {
		text := strconv.FormatInt(n, 10)
		wantScan(t, text, number(0, text, n))
	}
}

func TestNoughtIsANumber(t *testing.T) {
	wantScan(t, "0", number(0, "0", 0))
	wantScan(t, "0 0", number(0, "0", 0), number(2, "0", 0))
	wantScan(t, "(0)", sign(0, "("), number(1, "0", 0), sign(2, ")"))
	wantScan(t, "0,", number(0, "0", 0), sign(1, ","))
	wantScan(t, "10 -10 100", number(0, "10", 10), number(3, "-10", -10), number(7, "100", 100))
}

func TestNumbersOf64Bits(t *testing.T) {
	wantScan(t, "9223372036854775807", number(0, "9223372036854775807", math.MaxInt64))
	wantScan(t, "9223372036854775806", number(0, "9223372036854775806", math.MaxInt64-1))
	wantScan(t, "-9223372036854775808", number(0, "-9223372036854775808", math.MinInt64))
	wantScan(t, "-9223372036854775807", number(0, "-9223372036854775807", math.MinInt64+1))
	wantFault(t, "9223372036854775808", api.ErrNumber, 0)
	wantFault(t, "-9223372036854775809", api.ErrNumber, 0)
	wantFault(t, "a 9223372036854775808", api.ErrNumber, 2)
	wantFault(t, "a -9223372036854775809", api.ErrNumber, 2)
}

func TestSigns(t *testing.T) {
	for _, s := range allSigns() {
		wantScan(t, s, sign(0, s))
		wantScan(t, " "+s+" ", sign(1, s))
	}
	wantScan(t, "(){}<>,;->",
		sign(0, "("), sign(1, ")"), sign(2, "{"), sign(3, "}"), sign(4, "<"), sign(5, ">"), sign(6, ","), sign(7, ";"), sign(8, "->"))
}

func TestSignsOfTheSameKindStandAlone(t *testing.T) {
	for _, s := range allSigns() {
		n := len(s)
		wantScan(t, s+s+s, sign(0, s), sign(n, s), sign(2*n, s))
	}
}

func TestEachSignBehindEachOther(t *testing.T) {
	for _, a := range allSigns() {
		for _, b := range allSigns() {
			for _, gap := range between() {
				wantScan(t, a+gap+b, sign(0, a), sign(len(a+gap), b))
			}
		}
	}
}

func TestWordsAndNumbersBesideSigns(t *testing.T) {
	for _, s := range allSigns() {
		for _, gap := range between() {
			wantScan(t, "ab"+gap+s+gap+"cd", word(0, "ab"), sign(2+len(gap), s), word(2+len(gap+s+gap), "cd"))
			wantScan(t, "12"+gap+s+gap+"34", number(0, "12", 12), sign(2+len(gap), s), number(2+len(gap+s+gap), "34", 34))
			wantScan(t, "-1"+gap+s+gap+"-3", number(0, "-1", -1), sign(2+len(gap), s), number(2+len(gap+s+gap), "-3", -3))
		}
	}
}

func TestWordsAndNumbersBesideEachOther(t *testing.T) {
	for _, gap := range between() {
		wantScan(t, "ab"+gap+"12", word(0, "ab"), number(2+len(gap), "12", 12))
		wantScan(t, "ab"+gap+"-12", word(0, "ab"), number(2+len(gap), "-12", -12))
		wantScan(t, "12"+gap+"ab", number(0, "12", 12), word(2+len(gap), "ab"))
		wantScan(t, "-12"+gap+"ab", number(0, "-12", -12), word(3+len(gap), "ab"))
		wantScan(t, "12"+gap+"-34", number(0, "12", 12), number(2+len(gap), "-34", -34))
		wantScan(t, "0"+gap+"a", number(0, "0", 0), word(1+len(gap), "a"))
		wantScan(t, "0"+gap+"-1", number(0, "0", 0), number(1+len(gap), "-1", -1))
	}
	wantScan(t, "0x10", number(0, "0", 0), word(1, "x"), number(2, "10", 10))
	wantScan(t, "1e5", number(0, "1", 1), word(1, "e"), number(2, "5", 5))
	wantScan(t, "a1b2", word(0, "a"), number(1, "1", 1), word(2, "b"), number(3, "2", 2))
}

func TestAGapParts(t *testing.T) {
	for _, gap := range between()[1:] {
		wantScan(t, "ab"+gap+"cd", word(0, "ab"), word(2+len(gap), "cd"))
		wantScan(t, "12"+gap+"34", number(0, "12", 12), number(2+len(gap), "34", 34))
		wantScan(t, "0"+gap+"0", number(0, "0", 0), number(1+len(gap), "0", 0))
	}
}

// -

func TestMinusAheadOfADigit(t *testing.T) {
	for i := 1; i < len(digits); i++ {
		wantScan(t, "-"+digits[i:i+1], number(0, "-"+digits[i:i+1], int64(-i)))
	}
	wantScan(t, "x-5", word(0, "x"), number(1, "-5", -5))
	wantScan(t, "5-5-5", number(0, "5", 5), number(1, "-5", -5), number(3, "-5", -5))
	wantScan(t, ">-5", sign(0, ">"), number(1, "-5", -5))
	wantScan(t, "->-5", sign(0, "->"), number(2, "-5", -5))
}

func TestMinusAheadOfGreater(t *testing.T) {
	wantScan(t, "->", sign(0, "->"))
	wantScan(t, "->>", sign(0, "->"), sign(2, ">"))
	wantScan(t, ">->", sign(0, ">"), sign(1, "->"))
	wantScan(t, "5->5", number(0, "5", 5), sign(1, "->"), number(3, "5", 5))
	wantScan(t, "-5->", number(0, "-5", -5), sign(2, "->"))
	wantScan(t, "a->b", word(0, "a"), sign(1, "->"), word(3, "b"))
}

func TestMinusAheadOfAnythingElse(t *testing.T) {
	for c := range 256 {
		next := string([]byte{byte(c)})
		if next == ">" || strings.Contains(digits, next) {
			continue
		}
		wantFault(t, "-"+next, api.ErrText, 0)
		wantFault(t, "-"+next+"5", api.ErrText, 0)
		wantFault(t, "-"+next+">", api.ErrText, 0)
		wantFault(t, "a -"+next, api.ErrText, 2)
	}
	wantFault(t, "-#\n5", api.ErrText, 0)
	wantFault(t, "--5", api.ErrText, 0)
	wantFault(t, "-->", api.ErrText, 0)
	wantFault(t, "5--5", api.ErrText, 1)
}

func TestMinusAtTheEnd(t *testing.T) {
	wantFault(t, "-", api.ErrText, 0)
	wantFault(t, "a-", api.ErrText, 1)
	wantFault(t, "5-", api.ErrText, 1)
	wantFault(t, "5 -", api.ErrText, 2)
	wantFault(t, "->-", api.ErrText, 2)
	wantFault(t, "#\n-", api.ErrText, 2)
}

func TestNothingLiesBehindTheEnd(t *testing.T) {
	whole := "a -5 ->"
	wantFault(t, whole[:3], api.ErrText, 2)
	wantFault(t, whole[:6], api.ErrText, 5)
	wantScan(t, whole[:4], word(0, "a"), number(2, "-5", -5))
}

// blanks and remarks

func TestNoTokens(t *testing.T) {
	wantScan(t, "")
	for _, gap := range between() {
		wantScan(t, gap)
		wantScan(t, gap+gap)
		wantScan(t, gap+"# no newline")
		wantScan(t, gap+"#")
	}
}

func TestBlanksAndRemarksAround(t *testing.T) {
	for _, ahead := range between() {
		for _, behind := range append(between(), "#", "# to the end", "\n#\r") {
			at := len(ahead)
			wantScan(t, ahead+"ab"+behind, word(at, "ab"))
			wantScan(t, ahead+"-12"+behind, number(at, "-12", -12))
			wantScan(t, ahead+"0"+behind, number(at, "0", 0))
			for _, s := range allSigns() {
				wantScan(t, ahead+s+behind, sign(at, s))
			}
		}
	}
}

func TestARemarkGoesToTheNewlineAlone(t *testing.T) {
	wantScan(t, "a#b c\nd", word(0, "a"), word(6, "d"))
	wantScan(t, "a#b\rc\nd", word(0, "a"), word(6, "d"))
	wantScan(t, "a#b#c\nd#e", word(0, "a"), word(6, "d"))
	wantScan(t, "#a\n#b\nc\n#d\ne", word(6, "c"), word(11, "e"))
	wantScan(t, "a#b;c", word(0, "a"))
	wantScan(t, "a#\r\nb", word(0, "a"), word(4, "b"))
	wantFault(t, "#A\nA", api.ErrText, 3)
}

func TestARemarkHoldsAnyByte(t *testing.T) {
	for c := range 256 {
		remark := "#" + string([]byte{byte(c)})
		wantScan(t, remark)
		if c != '\n' {
			wantScan(t, remark+"x\ny", word(4, "y"))
		}
	}
	wantScan(t, "a#007 -0 - A \xff é 99999999999999999999\nb", word(0, "a"), word(39, "b"))
}

func TestARemarkDirectlyBehindAToken(t *testing.T) {
	wantScan(t, "ab#cd", word(0, "ab"))
	wantScan(t, "12#34", number(0, "12", 12))
	wantScan(t, "-1#2\n3", number(0, "-1", -1), number(5, "3", 3))
	wantScan(t, "->#>\n>", sign(0, "->"), sign(5, ">"))
	wantScan(t, "{#}\n}", sign(0, "{"), sign(4, "}"))
}

// the examples

func TestTheExamples(t *testing.T) {
	wantScan(t, "jump 1 <>;", word(0, "jump"), number(5, "1", 1), sign(7, "<"), sign(8, ">"), sign(9, ";"))
	wantScan(t, "-5", number(0, "-5", -5))
	wantScan(t, "->", sign(0, "->"))
	wantFault(t, "- 5", api.ErrText, 0)
}

func TestAModule(t *testing.T) {
	wantScan(t, "func 0()->(int){#main\n\tblock 0 () {\r\n\t\tnum -5; ret (0);}}",
		word(0, "func"), number(5, "0", 0), sign(6, "("), sign(7, ")"), sign(8, "->"), sign(10, "("), word(11, "int"), sign(14, ")"), sign(15, "{"),
		word(23, "block"), number(29, "0", 0), sign(31, "("), sign(32, ")"), sign(34, "{"),
		word(39, "num"), number(43, "-5", -5), sign(45, ";"), word(47, "ret"), sign(51, "("), number(52, "0", 0), sign(53, ")"), sign(54, ";"), sign(55, "}"), sign(56, "}"))
}

// wrong inputs

func TestNumbersThatAreNotShort(t *testing.T) {
	for _, text := range []string{"00", "01", "007", "000", "0123", "-0", "-00", "-01", "-007", "00000000000000000000000001", "-00000000000000000000000001", "09223372036854775807", "-09223372036854775808"} {
		wantFault(t, text, api.ErrNumber, 0)
		wantFault(t, "ab "+text+" cd", api.ErrNumber, 3)
		wantFault(t, "ab"+text+"cd", api.ErrNumber, 2)
		wantFault(t, "("+text+")", api.ErrNumber, 1)
		wantFault(t, "#0\n"+text+"#0", api.ErrNumber, 3)
		wantFault(t, "12 "+text, api.ErrNumber, 3)
	}
}

func TestNumbersOfTooManyBits(t *testing.T) {
	for _, text := range []string{"9223372036854775810", "9999999999999999999", "10000000000000000000", "18446744073709551615", "18446744073709551616", "18446744073709551617", "92233720368547758070", "340282366920938463463374607431768211456"} {
		wantFault(t, text, api.ErrNumber, 0)
		wantFault(t, "-"+text, api.ErrNumber, 0)
		wantFault(t, " "+text+" ", api.ErrNumber, 1)
		wantFault(t, ";-"+text+";", api.ErrNumber, 1)
	}
}

func TestNumbersOfVeryManyDigits(t *testing.T) {
	for _, c := range digits {
		text := strings.Repeat(string(c), api.MaxText-1)
		wantFault(t, text, api.ErrNumber, 0)
		wantFault(t, "-"+text, api.ErrNumber, 0)
		wantFault(t, "x"+text, api.ErrNumber, 1)
	}
}

func TestEachByteThatBeginsNothing(t *testing.T) {
	for c := range 256 {
		text := string([]byte{byte(c)})
		if strings.Contains(blanks+signs+digits+lower+"#", text) {
			continue
		}
		wantFault(t, text, api.ErrText, 0)
		wantFault(t, " "+text, api.ErrText, 1)
		wantFault(t, "ab"+text, api.ErrText, 2)
		wantFault(t, "12"+text+"  ", api.ErrText, 2)
		wantFault(t, "ab "+text+"#", api.ErrText, 3)
		wantFault(t, "(;"+text, api.ErrText, 2)
		wantFault(t, "#a\n"+text, api.ErrText, 3)
	}
}

func TestEachByteThatBeginsSomething(t *testing.T) {
	for _, c := range lower + signs {
		wantScan(t, string(c), word(0, string(c)))
	}
	for i, c := range digits {
		wantScan(t, string(c), number(0, string(c), int64(i)))
	}
	for _, c := range blanks + "#" {
		wantScan(t, string(c))
	}
}

func TestCapitalLetters(t *testing.T) {
	wantFault(t, "Jump", api.ErrText, 0)
	wantFault(t, "jumP", api.ErrText, 3)
	wantFault(t, "ju Mp", api.ErrText, 3)
	wantFault(t, "5A", api.ErrText, 1)
}

func TestBytesAbove127(t *testing.T) {
	for _, text := range []string{"é", "\u00a0", "\u0085", "\u2028", "\u0661", "ａ", "→", "−5", "\ufeff", "\x80", "\xff", "\xc3", "😀"} {
		wantFault(t, text, api.ErrText, 0)
		wantFault(t, "ab"+text+"cd", api.ErrText, 2)
		wantFault(t, "12 "+text, api.ErrText, 3)
	}
	wantScan(t, "#é\na", word(4, "a"))
}

func TestOtherWaysToWriteNumbers(t *testing.T) {
	wantFault(t, "+5", api.ErrText, 0)
	wantFault(t, "1_000", api.ErrText, 1)
	wantFault(t, "1.5", api.ErrText, 1)
	wantFault(t, ".5", api.ErrText, 0)
	wantFault(t, "a_b", api.ErrText, 1)
}

func TestTheFirstOfTwoFaults(t *testing.T) {
	wantFault(t, "a 007 A", api.ErrNumber, 2)
	wantFault(t, "a A 007", api.ErrText, 2)
	wantFault(t, "A B", api.ErrText, 0)
	wantFault(t, "00 01", api.ErrNumber, 0)
	wantFault(t, "-0A", api.ErrNumber, 0)
	wantFault(t, "007A", api.ErrNumber, 0)
	wantFault(t, "- 007", api.ErrText, 0)
	wantFault(t, "--0", api.ErrText, 0)
	wantFault(t, "-A007", api.ErrText, 0)
	wantFault(t, "#A\n-0 A", api.ErrNumber, 3)
	wantFault(t, "9223372036854775808-", api.ErrNumber, 0)
	wantFault(t, "-9223372036854775808-", api.ErrText, 20)
}

// MaxText

func TestMaxTextBytes(t *testing.T) {
	for _, c := range blanks + "#" {
		wantScan(t, strings.Repeat(string(c), api.MaxText))
	}
	wantScan(t, "#"+strings.Repeat("x", api.MaxText-1))
	wantScan(t, strings.Repeat("a", api.MaxText), word(0, strings.Repeat("a", api.MaxText)))
	wantScan(t, strings.Repeat(" ", api.MaxText-1)+"a", word(api.MaxText-1, "a"))
	wantScan(t, strings.Repeat(" ", api.MaxText-2)+"->", sign(api.MaxText-2, "->"))
	wantScan(t, strings.Repeat("\n", api.MaxText-2)+"-9", number(api.MaxText-2, "-9", -9))
	wantFault(t, strings.Repeat(" ", api.MaxText-1)+"-", api.ErrText, api.MaxText-1)
	wantFault(t, strings.Repeat(" ", api.MaxText-2)+"-0", api.ErrNumber, api.MaxText-2)
	wantFault(t, strings.Repeat("(", api.MaxText-1)+"A", api.ErrText, api.MaxText-1)
}

func TestMaxTextTokens(t *testing.T) {
	want := make([]Token, api.MaxText)
	for i := range want {
		want[i] = sign(i, ";")
	}
	wantScan(t, strings.Repeat(";", api.MaxText), want...)
}

func TestMoreThanMaxTextBytes(t *testing.T) {
	for _, length := range []int{api.MaxText + 1, api.MaxText + 2, 2 * api.MaxText, 1 << 20} {
		for _, c := range []string{" ", "\n", "#", "a", ";", "1"} {
			wantFault(t, strings.Repeat(c, length), api.ErrMany, api.MaxText)
		}
	}
	wantFault(t, "a"+strings.Repeat("\n", api.MaxText), api.ErrMany, api.MaxText)
}

func TestTooLongAndWrongBesides(t *testing.T) {
	for _, wrong := range []string{"A", "007", "-0", "- 5", "\xff", "9223372036854775808"} {
		wantFault(t, wrong+strings.Repeat(" ", api.MaxText), api.ErrMany, api.MaxText)
		wantFault(t, strings.Repeat(" ", api.MaxText)+wrong, api.ErrMany, api.MaxText)
		wantFault(t, strings.Repeat(wrong, api.MaxText+1), api.ErrMany, api.MaxText)
	}
}

// what holds everywhere

func TestAnswersAreNewMemory(t *testing.T) {
	src := strings.Clone("jump -5->(7#x\n,")
	for round := range 3 {
		got, _ := Scan(src)
		for _, x := range got {
			if sharesMemory(src, x.Text) {
				t.Errorf("round %d: the token %q lies in the text", round, x.Text)
			}
		}
		clear(got)
	}
	wantScan(t, src, word(0, "jump"), number(5, "-5", -5), sign(7, "->"), sign(9, "("), number(10, "7", 7), sign(14, ","))
}

func sharesMemory(whole, part string) bool {
	from := uintptr(unsafe.Pointer(unsafe.StringData(whole)))
	at := uintptr(unsafe.Pointer(unsafe.StringData(part)))
	return at >= from && at < from+uintptr(len(whole))
}
