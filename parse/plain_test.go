package parse

import (
	"math/rand"
	"slices"
	"strings"
	"testing"

	"copyhold/api"
	"copyhold/code"
	"copyhold/token"
)

// chapter is the grammar, letter by letter as the chapter has it.
const chapter = `
    module = { func }
    func   = "func" NUM types "->" types "{" { block } "}"
    block  = "block" NUM types "{" { ins ";" } end ";" "}"
    types  = "(" [ type { "," type } ] ")"
    type   = "int" | "handle" NUM | "array" NUM | "tuple" NUM types
    ins    = "num" LONG | "bin" KIND NUM NUM | "new" | "free" NUM | "tuple" NUM args | "get" NUM NUM | "set" NUM NUM NUM
           | "array" NUM NUM | "load" NUM NUM | "store" NUM NUM NUM | "len" NUM | "in" | "out" NUM | "call" NUM regs args
    end    = "jump" to | "if" NUM "to" to "else" to | "ret" args
    to     = NUM regs args
    regs   = "<" [ NUM { "," NUM } ] ">"
    args   = "(" [ NUM { "," NUM } ] ")"
`

// A plain form knows nothing but the grammar's letters: of each token it asks which ones could stand there, on all ways at once.
type plain struct{ rules map[string][][]string }

// way is what must come: the next item, which is one word or what stands in brackets of the grammar, with them; then the rest.
type way struct {
	item []string
	rest *way
}

func newPlain() plain {
	p := plain{rules: map[string][][]string{}}
	words := strings.Fields(chapter)
	name := ""
	for i, w := range words {
		last := len(p.rules[name]) - 1
		switch {
		case w == "=":
		case i+1 < len(words) && words[i+1] == "=":
			name = w
			p.rules[name] = [][]string{{}}
		case w == "|":
			p.rules[name] = append(p.rules[name], []string{})
		default:
			p.rules[name][last] = append(p.rules[name][last], w)
		}
	}
	return p
}

// ahead puts words of the grammar in front of a way.
func ahead(words []string, w *way) *way {
	if len(words) == 0 {
		return w
	}
	n, depth := 0, 0
	for n == 0 || depth > 0 {
		switch words[n] {
		case "[", "{":
			depth++
		case "]", "}":
			depth--
		}
		n++
	}
	return &way{words[:n], ahead(words[n:], w)}
}

// ways are those whose next item is a token; nil stands for a text that may end.
func (p plain) ways(w *way) []*way {
	if w == nil {
		return []*way{nil}
	}
	switch w.item[0] {
	case "[":
		return append(p.ways(w.rest), p.ways(ahead(w.item[1:len(w.item)-1], w.rest))...)
	case "{":
		return append(p.ways(w.rest), p.ways(ahead(w.item[1:len(w.item)-1], w))...)
	}
	rule := p.rules[w.item[0]]
	if rule == nil {
		return []*way{w}
	}
	var all []*way
	for _, alternative := range rule {
		all = append(all, p.ways(ahead(alternative, w.rest))...)
	}
	return all
}

func fits(item string, t token.Token) bool {
	switch item {
	case "NUM":
		return t.Num && 0 <= t.N && t.N <= 1000000
	case "LONG":
		return t.Num
	case "KIND":
		return slices.Contains(strings.Fields("add sub mul div mod less eq and xor"), t.Text)
	}
	return item == `"`+t.Text+`"`
}

// pair is an open pair of brackets: how many things have begun in it.
type pair struct{ things int }

// fault is the one that reading these tokens of a text of so many bytes tells, ahead of what code.Check says.
func (p plain) fault(tokens []token.Token, length int) api.Fault {
	now := p.ways(ahead([]string{"module"}, nil))
	var pairs []pair
	for _, t := range tokens {
		var later []*way
		items := map[string]bool{}
		for _, w := range now {
			if w == nil {
				continue
			}
			items[w.item[0]] = true
			if fits(w.item[0], t) {
				later = append(later, p.ways(w.rest)...)
			}
		}
		isType := slices.Contains([]string{"int", "handle", "array", "tuple"}, t.Text)
		switch {
		case items[`","`] && pairs[len(pairs)-1].things == 101:
			return api.Fault{Code: api.ErrMany, At: t.At}
		case len(later) == 0 && t.Num && items["NUM"]:
			return api.Fault{Code: api.ErrNumber, At: t.At}
		case len(later) == 0:
			return api.Fault{Code: api.ErrForm, At: t.At}
		case isType && len(pairs) > api.MaxNested+1:
			return api.Fault{Code: api.ErrDeep, At: t.At}
		}
		pairs = paired(pairs, t.Text)
		now = later
	}
	if !slices.Contains(now, nil) {
		return api.Fault{Code: api.ErrShort, At: length}
	}
	return api.Fault{}
}

// paired goes on with the open pairs. A thing begins behind a bracket that opens, too, but there are never a hundred and one at once.
func paired(pairs []pair, text string) []pair {
	switch text {
	case "(", "<":
		return append(pairs, pair{1})
	case ")", ">":
		return pairs[:len(pairs)-1]
	case ",":
		pairs[len(pairs)-1].things++
	}
	return pairs
}

// hold holds Parse of a text without token.Scan's faults against the plain form, and what was read against what is written; it answers the fault of reading.
func (p plain) hold(t *testing.T, src string) api.Fault {
	t.Helper()
	tokens, fault := token.Scan(src)
	if fault.Code != 0 {
		t.Fatalf("%s: Scan's fault %v", short(src), fault)
	}
	want := p.fault(tokens, len(src))
	if want.Code != 0 {
		wantFault(t, src, want.Code, want.At)
		return want
	}
	m, fault := read(tokens, len(src))
	if fault != (api.Fault{}) {
		t.Errorf("%s: %v, but it can be read", short(src), fault)
		return want
	}
	var texts []string
	for _, x := range tokens {
		texts = append(texts, x.Text)
	}
	if got := written(m); !slices.Equal(got, texts) {
		t.Errorf("%s: read as %v", short(src), got)
	}
	if fault := code.Check(m); fault.Code != 0 {
		wantFault(t, src, fault.Code, fault.At)
	} else {
		wantModule(t, src, m)
	}
	return want
}

// vocabulary has each word and sign of the grammar, numbers, and words that are none.
func vocabulary() []string {
	var all []string
	for _, w := range strings.Fields(chapter) {
		if strings.HasPrefix(w, `"`) && !slices.Contains(all, strings.Trim(w, `"`)) {
			all = append(all, strings.Trim(w, `"`))
		}
	}
	all = append(all, strings.Fields("add sub mul div mod less eq and xor")...)
	all = append(all, "0", "1", "1000000", "1000001", "-1", "9223372036854775807", "-9223372036854775808")
	return append(all, "mow", "ints", "i", "f", "funcs", "module", "type", "z")
}

// fully has each rule and each alternative of the grammar in it.
func fully() []string {
	return strings.Fields(`func 0 ( ) -> ( int ) { block 0 ( ) { new ; num -5 ; num 7 ; tuple 0 ( 1 , 1 ) ; tuple 0 ( ) ; get 2 1 ; set 2 1 1 ; array 0 1 ; load 4 1 ;
	store 4 1 1 ; len 4 ; in ; out 1 ; bin less 1 1 ; bin add 0 0 ; call 1 < 0 > ( 0 , 2 ) ; call 0 < > ( ) ; free 0 ; jump 1 < > ( 3 ) ; }
	block 0 ( int ) { if 0 to 1 < > ( 0 ) else 2 < > ( ) ; } block 0 ( ) { num 1 ; ret ( 0 ) ; } }
	func 2 ( handle 0 , tuple 0 ( int , array 1 ) ) -> ( ) { block 2 ( handle 0 , tuple 0 ( int , array 1 ) ) { if 1 to 1 < 0 , 1 > ( 0 ) else 1 < 1 , 0 > ( 2 , 3 ) ; } block 3 ( tuple 1 ( ) ) { ret ( ) ; } }`)
}

func TestEachTokenInThePlaceOfEachOther(t *testing.T) {
	p, tokens := newPlain(), fully()
	if fault := p.hold(t, strings.Join(tokens, " ")); fault.Code != 0 {
		t.Fatalf("the whole: %v", fault)
	}
	codes := map[int]int{}
	for i := range tokens {
		for _, other := range vocabulary() {
			codes[p.hold(t, strings.Join(slices.Concat(tokens[:i], []string{other}, tokens[i+1:]), " ")).Code]++
			codes[p.hold(t, strings.Join(slices.Concat(tokens[:i], []string{other}, tokens[i:]), " ")).Code]++
		}
		codes[p.hold(t, strings.Join(slices.Delete(slices.Clone(tokens), i, i+1), " ")).Code]++
	}
	for _, c := range []int{0, api.ErrForm, api.ErrNumber} {
		if codes[c] < 100 {
			t.Errorf("the code %d came %d times alone", c, codes[c])
		}
	}
}

// changed is a list of tokens with a few of them left out, doubled, put in or put elsewhere, or cut short.
func changed(r *rand.Rand, tokens []string) []string {
	words := vocabulary()
	tokens = slices.Clone(tokens)
	for range 1 + r.Intn(3) {
		if len(tokens) == 0 {
			return tokens
		}
		i, k := r.Intn(len(tokens)), r.Intn(len(tokens))
		switch r.Intn(7) {
		case 0:
			tokens = slices.Delete(tokens, i, i+1)
		case 1:
			tokens = slices.Insert(tokens, i, tokens[k])
		case 2:
			tokens = slices.Insert(tokens, i, words[r.Intn(len(words))])
		case 3:
			tokens[i] = words[r.Intn(len(words))]
		case 4:
			tokens[i], tokens[k] = tokens[k], tokens[i]
		case 5:
			tokens = tokens[:i]
		case 6:
			tokens = slices.Insert(tokens, i, slices.Clone(tokens[min(i, k):min(len(tokens), max(i, k), min(i, k)+40)])...)
		}
	}
	return tokens
}

// spread joins tokens by blanks and remarks of all kinds, with some ahead and behind, too.
func spread(r *rand.Rand, tokens []string) string {
	gaps := []string{" ", "  ", "\t", "\n", "\r\n", "#\n", " # ret (); }\n", "\n\n#a\n#b\n\t"}
	var b strings.Builder
	last := byte(' ')
	for _, text := range tokens {
		if grows(last, text[0]) || r.Intn(3) == 0 {
			b.WriteString(gaps[r.Intn(len(gaps))])
		}
		b.WriteString(text)
		last = text[len(text)-1]
	}
	return b.String() + []string{"", " ", "\n", "#", "# and out"}[r.Intn(5)]
}

func TestModulesByChanceAreRead(t *testing.T) {
	p := newPlain()
	for seed := range int64(1500) {
		r := rand.New(rand.NewSource(seed))
		m := anyModule(r)
		tokens := written(m)
		wantModule(t, strings.Join(tokens, " "), m)
		wantModule(t, tight(tokens), m)
		src := spread(r, tokens)
		wantModule(t, src, m)
		p.hold(t, src)
	}
}

func TestModulesByChanceThatAreChanged(t *testing.T) {
	p, codes := newPlain(), map[int]int{}
	for seed := range int64(6000) {
		r := rand.New(rand.NewSource(seed))
		src := spread(r, changed(r, written(anyModule(r))))
		codes[p.hold(t, src).Code]++
	}
	for _, c := range []int{0, api.ErrForm, api.ErrShort, api.ErrNumber} {
		if codes[c] < 20 {
			t.Errorf("the code %d came %d times alone", c, codes[c])
		}
	}
}

// TestLongAndDeepListsByChance has lists near the hundred and types near the depth, and something wrong at times.
func TestLongAndDeepListsByChance(t *testing.T) {
	p, codes := newPlain(), map[int]int{}
	for seed := range int64(1500) {
		r := rand.New(rand.NewSource(seed))
		things := func(one string) string {
			return strings.Repeat(one+" , ", 97+r.Intn(7)) + one
		}
		around := r.Intn(api.MaxNested + 3)
		inner := []string{"int", "", "handle 0", "mow", ")", "5", things("int")}[r.Intn(7)]
		kinds := strings.Repeat("tuple 0 ( ", around) + inner + strings.Repeat(" )", around)
		src := []string{
			"func 0 ( " + kinds + " ) -> ( ) { block 0 ( ) { ret ( ) ; } }",
			"func 0 ( int , " + kinds + " , int ) -> ( " + things("tuple 0 ( int )") + " ) { }",
			"func 0 ( ) -> ( ) { block 0 ( " + kinds + " ) { ret ( ) ; } }",
			"func 0 ( ) -> ( ) { block 0 ( ) { tuple 0 ( " + things("0") + " ) ; call 0 < " + things("1") + " > ( " + things("2") + " ) ; ret ( " + things("3") + " ) ; } }",
			"func 0 ( ) -> ( ) { block 0 ( ) { jump 0 < " + things("0") + " > ( " + things("1") + " ) ; } }",
		}[r.Intn(5)]
		tokens := strings.Fields(src)
		if r.Intn(2) == 0 {
			tokens = changed(r, tokens)
		}
		codes[p.hold(t, strings.Join(tokens, " ")).Code]++
	}
	for _, c := range []int{0, api.ErrForm, api.ErrMany, api.ErrDeep} {
		if codes[c] < 20 {
			t.Errorf("the code %d came %d times alone", c, codes[c])
		}
	}
}

func TestTokensByChance(t *testing.T) {
	p, words := newPlain(), vocabulary()
	for seed := range int64(3000) {
		r := rand.New(rand.NewSource(seed))
		tokens := slices.Clone(fully()[:r.Intn(len(fully()))])
		for range r.Intn(12) {
			tokens = append(tokens, words[r.Intn(len(words))])
		}
		p.hold(t, strings.Join(tokens, " "))
	}
}
