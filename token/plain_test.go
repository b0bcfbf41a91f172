package token

import (
	"fmt"
	"math/big"
	"math/rand"
	"regexp"
	"strings"
	"testing"

	"copyhold/api"
)

// plainScan is the chapter once more, in other words: what stands at a place is told by patterns, and numbers are of any length.
type plainScan struct{ blank, word, number, sign *regexp.Regexp }

func newPlainScan() plainScan {
	return plainScan{
		blank:  regexp.MustCompile(`^(?:[ \t\r\n]|#[^\n]*(?:\n|$))+`),
		word:   regexp.MustCompile(`^[a-z]+`),
		number: regexp.MustCompile(`^-?[0-9]+`),
		sign:   regexp.MustCompile(`^(?:->|[(){}<>,;])`),
	}
}

func (p plainScan) scan(src string) ([]Token, api.Fault) {
	if len(src) > api.MaxText {
		return nil, api.Fault{Code: api.ErrMany, At: api.MaxText}
	}
	var tokens []Token
	for at := 0; at < len(src); {
		rest := src[at:]
		if gap := p.blank.FindString(rest); gap != "" {
			at += len(gap)
			continue
		}
		text := p.word.FindString(rest) + p.sign.FindString(rest)
		next := Token{At: at, Text: text}
		if digits := p.number.FindString(rest); digits != "" {
			n, ok := new(big.Int).SetString(digits, 10)
			if !ok || n.String() != digits || !n.IsInt64() {
				return nil, api.Fault{Code: api.ErrNumber, At: at}
			}
			next = Token{At: at, Text: digits, Num: true, N: n.Int64()}
		}
		if next.Text == "" {
			return nil, api.Fault{Code: api.ErrText, At: at}
		}
		tokens = append(tokens, next)
		at += len(next.Text)
	}
	return tokens, api.Fault{}
}

// pieces are what random texts are made of; the fewer of the wrong ones, the longer a text goes well.
func pieces() (right, wrong []string) {
	right = []string{" ", "\t", "\r", "\n", "#", "#\n", "#a 0\n", "(", ")", "{", "}", "<", ">", ",", ";", "->", "a", "z", "jump", "0 ", "1", "9", "-5", "-1", "12", " 9223372036854775807 ", " -9223372036854775808 "}
	wrong = []string{"-", "--", "0", "00", "-0", "007", "A", "Z", "_", "é", "\xff", "\x00", "\v", "\f", " 9223372036854775808", " -9223372036854775809", "`", "{|", "/", ":", "!"}
	return right, wrong
}

func anyText(r *rand.Rand) string {
	right, wrong := pieces()
	oneIn := 1 + r.Intn(100)
	var b strings.Builder
	for range r.Intn(30) {
		if r.Intn(oneIn) == 0 {
			b.WriteString(wrong[r.Intn(len(wrong))])
		} else {
			b.WriteString(right[r.Intn(len(right))])
		}
	}
	return b.String()
}

func anyBytes(r *rand.Rand) string {
	b := make([]byte, r.Intn(8))
	for i := range b {
		b[i] = byte(r.Intn(128))
	}
	return string(b)
}

func (p plainScan) hold(t *testing.T, src string) int {
	t.Helper()
	tokens, fault := p.scan(src)
	if fault.Code != 0 {
		wantFault(t, src, fault.Code, fault.At)
	} else {
		wantScan(t, src, tokens...)
	}
	return fault.Code
}

func TestScanIsAsThePlainScan(t *testing.T) {
	p, codes := newPlainScan(), map[int]int{}
	for seed := range int64(20000) {
		r := rand.New(rand.NewSource(seed))
		codes[p.hold(t, anyText(r))]++
		p.hold(t, anyBytes(r))
	}
	for _, code := range []int{0, api.ErrNumber, api.ErrText} {
		if codes[code] < 1000 {
			t.Errorf("the code %d came %d times alone", code, codes[code])
		}
	}
}

func TestAllTextsOfThreeBytes(t *testing.T) {
	p, bytes := newPlainScan(), " \t\r\n#az019-><(){},;A_\x00\x80"
	for _, a := range []byte(bytes) {
		for _, b := range []byte(bytes) {
			p.hold(t, string([]byte{a, b}))
			for _, c := range []byte(bytes) {
				p.hold(t, string([]byte{a, b, c}))
			}
		}
	}
}

func TestAnswersStayTheSame(t *testing.T) {
	for seed := range int64(500) {
		r := rand.New(rand.NewSource(seed))
		src, other := anyText(r), anyText(r)
		ahead := fmt.Sprint(Scan(src))
		Scan(other)
		if now := fmt.Sprint(Scan(src)); now != ahead {
			t.Errorf("seed %d: %s, then %s", seed, ahead, now)
		}
	}
}
