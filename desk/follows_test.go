package desk

import (
	"fmt"
	"hash/crc32"
	"math/big"
	"math/rand"
	"regexp"
	"slices"
	"strings"
	"testing"

	"copyhold/api"
	"copyhold/codec"
	"copyhold/parse"
	"copyhold/raw"
	"copyhold/render"
	"copyhold/sample"
	"copyhold/trim"
	"copyhold/verify"
)

// plainDesk is the chapter once more, in other words: it keeps each line, and takes orders apart by patterns.
type plainDesk struct {
	lines   []string
	modules []api.Module // none or one
}

// orders in the order in which they are looked for; what a pattern does not fit is unknown.
var (
	nothing   = regexp.MustCompile(`^ *$`)
	readOrder = regexp.MustCompile(`^ *read *$`)
	newOrder  = regexp.MustCompile(`^ *new *$`)
	ofModule  = regexp.MustCompile(`^ *(print|bytes|trim) *$`)
	runOrder  = regexp.MustCompile(`^ *run((?: +(?:0|-?[1-9][0-9]*)){2,}) *$`)
)

func (p *plainDesk) do(lines []string) (string, api.Fault) {
	if len(lines) > 200 {
		return "", api.Fault{Code: api.ErrMany, At: -1}
	}
	for i, line := range lines {
		if strings.Count(line, "\n") > 0 {
			return "", api.Fault{Code: api.ErrLine, At: i}
		}
	}
	told := ""
	for _, line := range lines {
		told += p.line(line)
	}
	return told, api.Fault{}
}

func (p *plainDesk) line(line string) string {
	switch {
	case line != "" && line[0] == '|':
		p.lines = append(p.lines, line[1:])
		return ""
	case nothing.MatchString(line):
		return ""
	case newOrder.MatchString(line):
		p.lines = nil
		return ""
	case readOrder.MatchString(line):
		m, fault := parse.Parse(strings.Join(p.lines, "\n"))
		if fault.Code == 0 {
			fault = verify.Check(m)
		}
		p.modules = nil
		if fault.Code == 0 {
			p.modules = append(p.modules, m)
		}
		return plainNo(fault, fmt.Sprintf("yes %d\n", len(m.Funcs)))
	case len(p.modules) == 0:
		return "what\n"
	case ofModule.MatchString(line):
		return p.ofModule(strings.Trim(line, " "))
	}
	return p.run(line)
}

func plainNo(fault api.Fault, told string) string {
	if fault.Code != 0 {
		return fmt.Sprintf("no %d %d\n", fault.Code, fault.At)
	}
	return told
}

func (p *plainDesk) ofModule(order string) string {
	m := p.modules[0]
	switch order {
	case "print":
		text, fault := render.Print(m)
		return plainNo(fault, text)
	case "bytes":
		b, fault := codec.Encode(m)
		return plainNo(fault, fmt.Sprintf("bytes %d %d\n", len(b), crc32.ChecksumIEEE(b)))
	}
	made, fault := trim.Make(m)
	p.modules[0] = made
	return plainNo(fault, fmt.Sprintf("yes %d\n", len(made.Funcs)))
}

func (p *plainDesk) run(line string) string {
	parts := runOrder.FindStringSubmatch(line)
	if parts == nil {
		return "what\n"
	}
	var numbers []int64
	for _, word := range strings.Fields(parts[1]) {
		n, _ := new(big.Int).SetString(word, 10)
		if !n.IsInt64() {
			return "what\n"
		}
		numbers = append(numbers, n.Int64())
	}
	o, fault := raw.Run(p.modules[0], numbers[2:], int(numbers[0]), int(numbers[1]))
	end := strings.Fields("halt divide index length input depth memory fuel output")[o.End]
	plain := func(list []int64) string {
		text := fmt.Sprint(list)
		return strings.TrimRight(" "+text[1:len(text)-1], " ")
	}
	return plainNo(fault, fmt.Sprintf("%s%s\nout%s\nsteps %d\n", end, plain(o.Back), plain(o.Out), o.Fuel))
}

// Random lines

// anyText is that of a module, or of one that is spoilt, in some lines.
func anyText(r *rand.Rand) []string {
	maker := sample.New(r.Intn)
	m := maker.Module()
	switch r.Intn(6) {
	case 0:
		m = maker.Spoilt(m)
	case 1:
		m = maker.Wild()
	}
	text, fault := render.Print(m)
	if fault.Code != 0 {
		return nil
	}
	if r.Intn(8) == 0 {
		at := r.Intn(len(text) + 1)
		text = text[:at] + []string{"", "x", "$", "\t", "func", "007", ";", "#", "(", "99999999999999999999"}[r.Intn(10)] + text[at:]
	}
	if r.Intn(2) == 0 {
		text = strings.ReplaceAll(text, "\n", " ")
	}
	if r.Intn(3) == 0 {
		text = strings.ReplaceAll(text, "; ", ";\n")
	}
	return sheetOf(text)
}

func anyOf(r *rand.Rand, list []string) string { return list[r.Intn(len(list))] }

func anyNumber(r *rand.Rand) string {
	switch r.Intn(30) {
	case 0:
		return anyOf(r, notShort())
	case 1:
		return fmt.Sprint(int64(r.Uint64()))
	}
	return fmt.Sprint(r.Intn(8) - 2)
}

func anyRun(r *rand.Rand) string {
	fuel, pages := r.Intn(300), r.Intn(8)
	switch r.Intn(30) {
	case 0:
		fuel = r.Intn(22000) - 1000
	case 1:
		pages = r.Intn(70) - 2
	}
	line := fmt.Sprint("run ", fuel, " ", pages)
	for range r.Intn(20) {
		line += strings.Repeat(" ", 1+r.Intn(2)) + anyNumber(r)
	}
	if r.Intn(100) == 0 {
		line += strings.Repeat(" 1", 180+r.Intn(30))
	}
	if r.Intn(40) == 0 {
		line = line[:r.Intn(len(line))]
	}
	return line
}

// anyLine is one that is no line of a module's text.
func anyLine(r *rand.Rand) string {
	switch r.Intn(14) {
	case 0:
		return anyOf(r, noOrders())
	case 1:
		return anyOf(r, list("", " ", "   ", "|", "| ", "|# x", "||", "|\r", "\r", "\t"))
	case 2, 3, 4, 5:
		return anyRun(r)
	case 6:
		return "new"
	case 7, 8:
		return "trim"
	case 9, 10:
		return anyOf(r, list("print", "bytes", " print", "bytes  ", "  print  "))
	}
	return anyOf(r, list("read", "read", " read", "read "))
}

// anyLines are some, with a newline in one or too many of them at times.
func anyLines(r *rand.Rand) []string {
	var lines []string
	for range r.Intn(6) {
		if r.Intn(4) == 0 {
			lines = append(lines, "new")
		}
		if r.Intn(3) == 0 {
			lines = append(lines, anyText(r)...)
			lines = append(lines, "read")
		}
		for range r.Intn(6) {
			lines = append(lines, anyLine(r))
		}
	}
	if r.Intn(20) == 0 && len(lines) > 0 {
		lines[r.Intn(len(lines))] += "\nx"
	}
	if r.Intn(30) == 0 {
		lines = append(lines, slices.Repeat(list("|"), 190)...)
	}
	return lines
}

// both is a desk, one that is asked line by line, and what they are held against.
type both struct {
	desk, slow *Desk
	plain      plainDesk
	tally      map[string]int
}

func (b *both) do(t *testing.T, lines []string) {
	t.Helper()
	told, fault := b.plain.do(lines)
	wantDo(t, b.desk, lines, told, fault)
	b.tally[fmt.Sprint("fault ", fault.Code)]++
	for _, line := range strings.Split(told, "\n") {
		word, _, _ := strings.Cut(line, " ")
		b.tally[word]++
	}
	if fault.Code != 0 {
		return
	}
	slow := ""
	for _, line := range lines {
		part, fault := b.slow.Do(list(line))
		if fault != (api.Fault{}) {
			t.Errorf("%q alone: Do = %v", line, fault)
		}
		slow += part
	}
	if slow != told {
		t.Errorf("%s: line by line it tells %q, want %q", short(lines), cut(slow), cut(told))
	}
}

func TestALongRandomRun(t *testing.T) {
	tally := map[string]int{}
	for seed := range int64(90) {
		r := rand.New(rand.NewSource(seed))
		b := &both{desk: New(), slow: New(), tally: tally}
		for range 60 {
			b.do(t, anyLines(r))
		}
		if t.Failed() {
			t.Fatalf("seed %d", seed)
		}
	}
	for word, least := range map[string]int{
		"yes": 4000, "no": 1500, "what": 1500, "bytes": 500, "func": 1000, "fault 0": 2000, "fault 2": 100, "fault 17": 100,
		"halt": 200, "divide": 20, "index": 5, "length": 20, "input": 400, "depth": 1, "memory": 150, "fuel": 100, "out": 1500, "steps": 1500,
	} {
		if tally[word] < least {
			t.Errorf("%q comes %d times alone", word, tally[word])
		}
	}
}

func TestWhateverIsHandedIn(t *testing.T) {
	for seed := range int64(3000) {
		r := rand.New(rand.NewSource(seed))
		b := &both{desk: New(), slow: New(), tally: map[string]int{}}
		for range 3 {
			var lines []string
			for range r.Intn(12) {
				line := make([]byte, r.Intn(9))
				for i := range line {
					line[i] = anyOf(r, list("|", " ", "r", "e", "0", "1", "-", "\x00", "\xff", "\t", "#", string(rune(r.Intn(256)))))[0]
				}
				lines = append(lines, string(line), anyLine(r))
			}
			b.do(t, lines)
		}
		if t.Failed() {
			t.Fatalf("seed %d", seed)
		}
	}
}

// What two Do tell one behind the other one Do of both tells

func TestOneDoOfBoth(t *testing.T) {
	done := 0
	for seed := range int64(1500) {
		r := rand.New(rand.NewSource(seed))
		first, second := anyLines(r), anyLines(r)
		one, two := New(), New()
		told, fault := one.Do(append(slices.Clone(first), second...))
		a, aFault := two.Do(first)
		b, bFault := two.Do(second)
		if fault.Code != 0 || aFault.Code != 0 || bFault.Code != 0 {
			continue
		}
		done++
		if a+b != told {
			t.Fatalf("seed %d: %s, then %s: %q, at once %q", seed, short(first), short(second), cut(a+b), cut(told))
		}
		// and both desks are the same behind it
		rest := list("print", "bytes", "read", "print", "trim", "bytes", "run 99 3 1 2 3", "|", "read", "|x", "read")
		want, _ := one.Do(rest)
		wantDo(t, two, rest, want, api.Fault{})
	}
	if done < 1000 {
		t.Errorf("%d pairs alone were done", done)
	}
}

func TestAScriptThatIsCutAnywhere(t *testing.T) {
	script := list("|func 0 () -> (int) {", "read", "|block 0 () { in; out 0; ret (0); }", "print", "|}", "read", "run 9 0 7", "", "new", "print", "x", "|"+five, "|"+six, "read", "bytes", "trim", "print", "read", "|$", "read", "print", "run 1 1")
	want, fault := New().Do(script)
	if fault != (api.Fault{}) {
		t.Fatalf("Do = %v", fault)
	}
	for i := range len(script) + 1 {
		for k := i; k <= len(script); k++ {
			d, told := New(), ""
			for _, part := range [][]string{script[:i], script[i:k], script[k:]} {
				text, fault := d.Do(part)
				if fault != (api.Fault{}) {
					t.Fatalf("Do = %v", fault)
				}
				told += text
			}
			if told != want {
				t.Fatalf("cut at %d and %d: %q, want %q", i, k, told, want)
			}
		}
	}
}

// Objects, and what is handed in

func TestTwoDesksKnowNothingOfEachOther(t *testing.T) {
	a, b := New(), New()
	wantTold(t, a, list("|"+five, "read"), "yes 1")
	wantTold(t, b, list("print", "read"), "what", "no 2 -1")
	wantTold(t, b, list("|"+six, "|"+six, "read", "print"), "yes 2", sixText+"\n"+sixText)
	wantTold(t, a, list("print", "run 9 0", "read"), fiveText, "halt 5", "out", "steps 2", "yes 1")
	wantTold(t, a, list("|x", "read", "new"), fmt.Sprint("no 4 ", len(five)+1))
	wantTold(t, b, list("trim", "print", "read", "new"), "yes 1", sixText, "yes 2")
	wantTold(t, a, list("|"+echo, "read"), "yes 1")
	wantTold(t, b, list("print", "run 9 0", "read"), sixText+"\n"+sixText, "halt 6", "out", "steps 2", "no 2 -1")
	wantTold(t, a, list("run 9 0"), "input", "out", "steps 1")
}

func TestManyDesksSideBySide(t *testing.T) {
	scripts := map[int][][]string{}
	alone := map[int]string{}
	for n := range 8 {
		r := rand.New(rand.NewSource(int64(n)))
		d := New()
		for range 30 {
			lines := anyLines(r)
			scripts[n] = append(scripts[n], lines)
			alone[n] += fmt.Sprintln(d.Do(lines))
		}
	}
	together, desks := map[int]string{}, map[int]*Desk{}
	for i := range 30 {
		for n := range 8 {
			if desks[n] == nil {
				desks[n] = New()
			}
			together[n] += fmt.Sprintln(desks[n].Do(scripts[n][i]))
		}
	}
	for n := range 8 {
		if together[n] != alone[n] {
			t.Errorf("the desk %d tells something else beside others", n)
		}
	}
}

func TestWhatWasHandedInIsNotKept(t *testing.T) {
	d := New()
	lines := list("|"+five, "read", "print")
	wantTold(t, d, lines, "yes 1", fiveText)
	for i := range lines {
		lines[i] = "|x"
	}
	wantTold(t, d, list("print", "read", "print"), fiveText, "yes 1", fiveText)
	wantTold(t, d, lines)
	clear(lines)
	wantTold(t, d, list("print", "read"), fiveText, fmt.Sprint("no 4 ", len(five)+1))
	// room behind the lines is not written
	room := []string{"|" + six, "read", "a", "b"}
	wantTold(t, New(), room[:2:4], "yes 1")
	if room[2] != "a" || room[3] != "b" {
		t.Errorf("behind the lines stands %q", room[2:])
	}
}

func TestWhatWasToldStays(t *testing.T) {
	d := New()
	first, _ := d.Do(list("|"+five, "read", "print"))
	own := strings.Clone(first)
	wantTold(t, d, list("new", "|"+six, "read", "print", "run 9 0"), "yes 1", sixText, "halt 6", "out", "steps 2")
	if first != own {
		t.Errorf("what was told is %q now, and was %q", first, own)
	}
}
