package codec

import (
	"bytes"
	"math"
	"slices"
	"testing"

	"copyhold/api"
)

// Wrong bytes. Those of the least module stand at 3 and up to 13, where its sum begins.

func least() []byte { return framed(2, 0, 0, 0, 2, 0, 0, 0, 6, 0) }

// torn has another byte at a place, and the old sum.
func torn(b []byte, at int, other byte) []byte {
	b = slices.Clone(b)
	b[at] = other
	return b
}

func TestFewerThanSevenBytes(t *testing.T) {
	wantFault(t, nil, api.ErrShort, 0)
	for _, b := range [][]byte{least(), make([]byte, 20), bytes.Repeat([]byte{255}, 20), rising(20), {67, 72, 1, 67, 72, 1, 67}} {
		for n := range 7 {
			wantFault(t, b[:n], api.ErrShort, n)
		}
	}
	for n := range 3 {
		wantFault(t, summed([]byte{67, 72, 1}[:n]), api.ErrShort, n+4)
	}
}

func TestSevenBytes(t *testing.T) {
	wantFault(t, framed(), api.ErrShort, 3)
	wantFault(t, []byte{67, 72, 1, 0, 0, 0, 0}, api.ErrSum, 3)
	wantFault(t, torn(framed(), 2, 2), api.ErrForm, 0)
	wantFault(t, make([]byte, 7), api.ErrForm, 0)
}

func TestMoreThanMaxBytes(t *testing.T) {
	for _, n := range []int{20001, 20002, 20005, 40000, 1 << 20} {
		between := make([]byte, n-7)
		wantFault(t, framed(between...), api.ErrMany, 20000)
		wantFault(t, framed(joined([]byte{2, 0, 0, 0, 2, 0, 0, 0, 6, 0}, between)...)[:n], api.ErrMany, 20000)
		wantFault(t, make([]byte, n), api.ErrMany, 20000)
	}
	for _, n := range []int{19999, 20000} {
		wantFault(t, make([]byte, n), api.ErrForm, 0)
		b := framed(make([]byte, n-7)...)
		wantFault(t, b, api.ErrForm, 4)
		wantFault(t, torn(b, n-1, b[n-1]+1), api.ErrSum, n-4)
		wantFault(t, torn(b, 10, 1), api.ErrSum, n-4)
	}
}

func TestOtherFirstBytes(t *testing.T) {
	for at := range 3 {
		for other := range 256 {
			b := torn(least(), at, byte(other))
			if byte(other) == least()[at] {
				continue
			}
			wantFault(t, b, api.ErrForm, 0)
			wantFault(t, summed(b[:13]), api.ErrForm, 0)
			wantFault(t, summed(b[:3]), api.ErrForm, 0)
		}
	}
	wantFault(t, summed([]byte{1, 72, 67, 2, 0, 0, 0, 2, 0, 0, 0, 6, 0}), api.ErrForm, 0)
}

func TestOtherSums(t *testing.T) {
	b := least()
	for at := 3; at < len(b); at++ {
		for other := range 256 {
			if byte(other) != b[at] {
				wantFault(t, torn(b, at, byte(other)), api.ErrSum, 13)
			}
		}
	}
	sum := b[13:]
	wantFault(t, joined(b[:13], []byte{sum[3], sum[2], sum[1], sum[0]}), api.ErrSum, 13)
	wantFault(t, append(slices.Clone(b), 0), api.ErrSum, 14)
	wantFault(t, b[:len(b)-1], api.ErrSum, 12)
	wantFault(t, joined(b, b[13:]), api.ErrSum, 17)
}

// A torn sum is told ahead of all that is wrong between.
func TestSumsAheadOfWhatIsBetween(t *testing.T) {
	for _, between := range [][]byte{{}, {128}, {128, 0}, {1}, {8}, {0}, {2, 0, 0, 0, 2, 0, 0, 0, 6, 0, 0}, {2, 0, 0, 0, 2, 0, 0, 0, 8}} {
		b := framed(between...)
		if _, fault := Decode(b); fault.Code == 0 || fault.Code == api.ErrSum {
			t.Errorf("%v: fault %v", b, fault)
		}
		wantFault(t, torn(b, len(b)-1, b[len(b)-1]^1), api.ErrSum, len(b)-4)
	}
}

func TestNumbersThatAreNotOver(t *testing.T) {
	wantFault(t, framed(), api.ErrShort, 3)
	wantFault(t, framed(128), api.ErrShort, 4)
	wantFault(t, framed(130, 128, 128), api.ErrShort, 6)
	wantFault(t, framed(2, 0), api.ErrShort, 5)
	wantFault(t, framed(2, 128), api.ErrShort, 5)
	wantFault(t, framed(2, 0, 0), api.ErrShort, 6)
	wantFault(t, framed(2, 0, 0, 0), api.ErrShort, 7)
	wantFault(t, framed(2, 0, 0, 0, 2, 0), api.ErrShort, 9)
	wantFault(t, framed(2, 0, 0, 0, 2, 0, 0), api.ErrShort, 10)
	wantFault(t, framed(2, 0, 0, 0, 2, 0, 0, 0), api.ErrShort, 11)
	wantFault(t, framed(2, 0, 0, 0, 2, 0, 0, 0, 6), api.ErrShort, 12)
	wantFault(t, framed(2, 0, 0, 0, 2, 0, 0, 0, 6, 128), api.ErrShort, 13)
	for n := 1; n < 10; n++ { // a number ahead of the tenth byte is not too great yet
		wantFault(t, framed(bytes.Repeat([]byte{255}, n)...), api.ErrShort, 3+n)
		wantFault(t, framed(bytes.Repeat([]byte{128}, n)...), api.ErrShort, 3+n)
	}
}

// What lies in the sum is no part of a number: here it would end it.
func TestNumbersEndAheadOfTheSum(t *testing.T) {
	tried := 0
	for n := range 256 {
		b := framed(2, byte(n), 128)
		if b[6] < 128 && n < 128 {
			tried++
			wantFault(t, b, api.ErrShort, 6)
		}
	}
	if tried < 10 {
		t.Errorf("%d sums tried", tried)
	}
}

// ofNumber are the bytes of a module with an INum of this number, from its first byte on, with what is ahead.
func ofNumber(number ...byte) []byte { return onlyBytes(joined([]byte{2}, number)...) }

func TestTheTenthByteOfANumber(t *testing.T) {
	nine := bytes.Repeat([]byte{255}, 9)
	wantModule(t, ofNumber(append(nine, 1)...), onlyCode(api.Ins{Op: api.INum, N: math.MinInt64}))
	wantModule(t, ofNumber(joined(bytes.Repeat([]byte{128}, 9), []byte{1})...), onlyCode(api.Ins{Op: api.INum, N: 1 << 62}))
	wantFault(t, ofNumber(append(nine, 0)...), api.ErrRange, 21)
	for tenth := 2; tenth < 256; tenth++ {
		wantFault(t, ofNumber(append(nine, byte(tenth))...), api.ErrRange, 21)
		wantFault(t, ofNumber(append(nine, byte(tenth), 1)...), api.ErrRange, 21)
		wantFault(t, framed(append(nine, byte(tenth))...), api.ErrRange, 12)
		wantFault(t, framed(joined(bytes.Repeat([]byte{128}, 9), []byte{byte(tenth)})...), api.ErrRange, 12)
	}
	wantFault(t, framed(bytes.Repeat([]byte{255}, 30)...), api.ErrRange, 12)
}

func TestALastByteThatIsNought(t *testing.T) {
	for several := 1; several <= 9; several++ {
		for _, b := range []byte{128, 129, 200, 255} {
			ahead := bytes.Repeat([]byte{b}, several)
			wantFault(t, ofNumber(append(ahead, 0)...), api.ErrRange, 12+several)
			wantFault(t, framed(append(ahead, 0)...), api.ErrRange, 3+several)
			wantFault(t, framed(append(ahead, 0, 128, 0)...), api.ErrRange, 3+several)
		}
	}
	wantModule(t, ofNumber(0), onlyCode(api.Ins{Op: api.INum}))
	wantModule(t, ofNumber(128, 128, 1), onlyCode(api.Ins{Op: api.INum, N: 8192}))
}

// starts are the places at which the numbers of a module's bytes begin.
func starts(b []byte) []int {
	all := []int{3}
	for at := 3; at < len(b)-5; at++ {
		if b[at] < 128 {
			all = append(all, at+1)
		}
	}
	return all
}

// Each number of a module, whatever it is, is read as all are.
func TestEachNumberOfAModule(t *testing.T) {
	b := plainBytes(whole())
	end := len(b) - 4
	for _, at := range starts(b) {
		size := 1
		for b[at+size-1] >= 128 {
			size++
		}
		behind := b[at+size : end]
		put := func(number ...byte) []byte { return summed(joined(b[:at], number, behind)) }
		longer := slices.Clone(b[at : at+size])
		longer[size-1] |= 128
		wantFault(t, put(append(longer, 0)...), api.ErrRange, at+min(size, 9))
		wantFault(t, put(128, 128, 0), api.ErrRange, at+2)
		wantFault(t, put(bytes.Repeat([]byte{255}, 10)...), api.ErrRange, at+9)
		wantFault(t, put(joined(bytes.Repeat([]byte{128}, 9), []byte{2})...), api.ErrRange, at+9)
		wantFault(t, put(joined(bytes.Repeat([]byte{129}, 9), []byte{0})...), api.ErrRange, at+9)
	}
}

// counts are the bytes ahead of each kind of list.
func counts() map[string][]byte {
	block := []byte{2, 0, 0, 0, 2, 0, 0}
	ins := append(slices.Clone(block), 2)
	end := append(slices.Clone(block), 0)
	return map[string][]byte{
		"functions":         {},
		"Params":            {2, 0},
		"Results":           {2, 0, 0},
		"blocks":            {2, 0, 0, 0},
		"Params of a block": {2, 0, 0, 0, 2, 0},
		"instructions":      block,
		"L":                 {2, 0, 2, 6, 0},
		"L in L":            {2, 0, 2, 6, 0, 2, 6, 0},
		"L of a result":     {2, 0, 0, 2, 6, 0},
		"L of a block":      {2, 0, 0, 0, 2, 0, 2, 6, 0},
		"Args of a tuple":   append(slices.Clone(ins), 10, 0),
		"Regs of a call":    append(slices.Clone(ins), 28, 0),
		"Args of a call":    append(slices.Clone(ins), 28, 0, 0),
		"Regs of a jump":    append(slices.Clone(end), 2, 0),
		"Args of a jump":    append(slices.Clone(end), 2, 0, 0),
		"Regs of Yes":       append(slices.Clone(end), 4, 0, 0),
		"Args of Yes":       append(slices.Clone(end), 4, 0, 0, 0),
		"Regs of No":        append(slices.Clone(end), 4, 0, 0, 0, 0, 0),
		"Args of No":        append(slices.Clone(end), 4, 0, 0, 0, 0, 0, 0),
		"Args of a ret":     append(slices.Clone(end), 6),
	}
}

func TestCounts(t *testing.T) {
	for what, ahead := range counts() {
		first := 3 + len(ahead)
		of := func(count int64, behind int) []byte {
			return framed(joined(ahead, plainNumber(count), make([]byte, behind))...)
		}
		for _, n := range []int64{-1, -2, -64, -65, -8193, math.MinInt64} {
			wantFault(t, of(n, 0), api.ErrMany, first)
			wantFault(t, of(n, 100), api.ErrMany, first)
		}
		for _, behind := range []int{0, 1, 2, 5, 62, 63, 64, 65, 200, 8191, 8192, 8193} {
			for more := 1; more <= 6; more++ { // the sum's bytes do not count
				wantFault(t, of(int64(behind+more), behind), api.ErrMany, first)
			}
			wantFault(t, of(math.MaxInt64, behind), api.ErrMany, first)
			wantFault(t, of(1<<32, behind), api.ErrMany, first)
			wantFault(t, of(1<<62, behind), api.ErrMany, first)
			if _, fault := Decode(of(int64(behind), behind)); fault == (api.Fault{Code: api.ErrMany, At: first}) {
				t.Errorf("%s: as many as there are bytes behind, %d: %v", what, behind, fault)
			}
		}
	}
}

// As many as there are bytes behind can be a module.
func TestCountsThatAreJustRight(t *testing.T) {
	for n := range api.MaxParams + 1 {
		b := framed(joined([]byte{2, 0, 0, 0, 2, 0, 0, 0, 6, byte(2 * n)}, make([]byte, n))...)
		wantModule(t, b, only(api.Block{End: api.End{Op: api.ERet, Args: make([]int, n)}}))
		wantFault(t, framed(joined([]byte{2, 0, 0, 0, 2, 0, 0, 0, 6, byte(2*n + 2)}, make([]byte, n))...), api.ErrMany, 12)
	}
	wantFault(t, framed(joined([]byte{2, 0, 0, 0, 2, 0, 0, 0, 6, 128, 1}, make([]byte, 64))...), api.ErrKind, 78)
	wantFault(t, framed(joined([]byte{2, 0, 0, 0, 2, 0, 0, 0, 6, 128, 1}, make([]byte, 63))...), api.ErrMany, 12)
}

// deep are the bytes of a list of types, in which so many more stand in one another, of which the innermost is this.
func deep(around int, innermost ...byte) []byte {
	return joined(bytes.Repeat([]byte{2, 6, 0}, around), innermost)
}

// withTypes are the bytes of modules with these types as Params, as Results, and as Params of a block that is not the first, and where they begin.
func withTypes(types ...byte) map[int][]byte {
	head := []byte{4, 0, 0, 0, 2, 0, 0, 0, 6, 0, 2}
	return map[int][]byte{
		14: framed(joined(head, types, []byte{0, 2, 2}, types, []byte{0, 6, 0})...),
		15: framed(joined(head, []byte{0}, types, []byte{2, 2, 0, 0, 6, 0})...),
		23: framed(joined(head, []byte{0, 0, 4, 2, 0, 0, 6, 0, 2}, types, []byte{0, 6, 0})...),
	}
}

func TestListsOfTypesInListsOfTypes(t *testing.T) {
	for around := range 6 { // 5 is MaxNested + 1
		for _, b := range withTypes(deep(around, 0)...) {
			if _, fault := Decode(b); fault.Code != 0 {
				t.Errorf("in %d others: fault %v", around, fault)
			}
		}
	}
	for _, b := range withTypes(deep(5, 2, 2)...) {
		wantFault(t, b, api.ErrKind, len(b)-4)
	}
	for around := 6; around < 40; around++ {
		for _, innermost := range [][]byte{{0}, {2, 2}, {2, 6, 0, 0}} {
			for first, b := range withTypes(deep(around, innermost...)...) {
				wantFault(t, b, api.ErrDeep, first+18)
			}
		}
	}
}

// A list beside others stands in those around it alone.
func TestListsOfTypesBesideEachOther(t *testing.T) {
	wide := []byte{4, 6, 0}
	most := deep(4, 0)
	for _, b := range withTypes(joined(wide, most, []byte{6, 0}, most)...) {
		if _, fault := Decode(b); fault.Code != 0 {
			t.Errorf("two types: fault %v", fault)
		}
	}
	for first, b := range withTypes(joined(wide, most, []byte{6, 0}, deep(5, 0))...) {
		wantFault(t, b, api.ErrDeep, first+3+len(most)+2+15)
	}
	for first, b := range withTypes(joined([]byte{6, 2, 8, 0, 6, 0}, deep(5, 0))...) {
		wantFault(t, b, api.ErrDeep, first+6+15)
	}
}

// A count's own fault is told ahead of ErrDeep at the same byte, and not if it lies behind.
func TestListsThatAreTooDeepWithWrongCounts(t *testing.T) {
	six := joined([]byte{2, 0}, deep(6))
	for _, c := range []struct {
		behind []byte
		code   int
	}{
		{[]byte{}, api.ErrShort},
		{[]byte{0}, api.ErrDeep},
		{[]byte{1}, api.ErrMany},
		{[]byte{1, 0, 0}, api.ErrMany},
		{[]byte{2}, api.ErrMany},
		{[]byte{2, 0}, api.ErrDeep},
		{[]byte{6, 2, 2}, api.ErrMany},
		{[]byte{4, 2, 2}, api.ErrDeep},
		{[]byte{255, 1, 0}, api.ErrMany},
		{[]byte{128}, api.ErrDeep},
		{[]byte{128, 0}, api.ErrDeep},
		{[]byte{128, 1, 0}, api.ErrMany},
		{bytes.Repeat([]byte{255}, 9), api.ErrDeep},
		{bytes.Repeat([]byte{255}, 12), api.ErrDeep},
	} {
		wantFault(t, framed(joined(six, c.behind)...), c.code, 3+len(six))
	}
}

func TestBytesThatAreLeft(t *testing.T) {
	ahead := least()[3:13]
	for left := range 256 {
		wantFault(t, framed(joined(ahead, []byte{byte(left)})...), api.ErrForm, 13)
	}
	for _, left := range [][]byte{{0, 0}, {128, 0}, {128}, ahead, bytes.Repeat([]byte{255}, 100), make([]byte, 20000-17)} {
		wantFault(t, framed(joined(ahead, left)...), api.ErrForm, 13)
	}
	wantFault(t, framed(0, 0), api.ErrForm, 4)
	wantFault(t, framed(0, 128), api.ErrForm, 4)
	wantFault(t, framed(0), api.ErrKind, 4)
	wantFault(t, framed(2, 0, 0, 0, 2, 0, 0, 0, 8, 0), api.ErrForm, 12) // ahead of the end that is none
}

func TestTypesOfNoKind(t *testing.T) {
	for _, kind := range []int64{0, -1, -2, 5, 6, 63, 64, -65, math.MaxInt64, math.MinInt64} {
		for _, r := range []int64{0, 1, -1, 64, math.MinInt64} {
			none := joined(plainNumber(kind), plainNumber(r))
			for _, list := range [][]byte{joined([]byte{2}, none), joined([]byte{6, 2}, none, []byte{2}), joined([]byte{2, 6, 0, 4}, none, none)} {
				for _, b := range withTypes(list...) {
					wantFault(t, b, api.ErrKind, len(b)-4)
				}
			}
		}
		for first, b := range withTypes(joined([]byte{2}, plainNumber(kind), []byte{128, 0})...) {
			wantFault(t, b, api.ErrRange, first+1+len(plainNumber(kind))+1)
		}
	}
}

func TestInstructionsOfNoKind(t *testing.T) {
	for _, op := range []int64{0, -1, -2, 15, 16, 63, 64, -65, math.MaxInt64, math.MinInt64} {
		none := plainNumber(op)
		for _, list := range [][]byte{joined([]byte{2}, none), joined([]byte{4}, none, none), joined([]byte{6, 24}, none, []byte{8, 0})} {
			b := framed(joined([]byte{2, 0, 0, 0, 2, 0, 0}, list, []byte{6, 0})...)
			wantFault(t, b, api.ErrKind, len(b)-4)
		}
		wantFault(t, onlyBytes(append(none, 128, 0)...), api.ErrRange, 12+len(none))
	}
}

func TestEndsOfNoKind(t *testing.T) {
	for _, op := range []int64{0, -1, -2, 4, 5, 63, 64, -65, math.MaxInt64, math.MinInt64} {
		none := plainNumber(op)
		b := framed(joined([]byte{2, 0, 0, 0, 2, 0, 0, 0}, none)...)
		wantFault(t, b, api.ErrKind, len(b)-4)
		b = framed(joined([]byte{2, 0, 0, 0, 4, 0, 0, 0}, none, []byte{0, 0, 0, 6, 0})...)
		wantFault(t, b, api.ErrKind, len(b)-4)
		wantFault(t, framed(joined([]byte{2, 0, 0, 0, 2, 0, 0, 0}, none, []byte{0})...), api.ErrForm, 11+len(none))
	}
}

// From the front: of two faults that one is told that is come to first, whatever they are.
func TestTwoFaultsBetween(t *testing.T) {
	for _, c := range []struct {
		what     string
		between  []byte
		code, at int
	}{
		{"two numbers with a last byte of nought", []byte{2, 128, 0, 128, 0}, api.ErrRange, 5},
		{"such a number, then one that is not over", []byte{2, 128, 0, 128}, api.ErrRange, 5},
		{"such a number, then too great a count", []byte{2, 128, 0, 100}, api.ErrRange, 5},
		{"too great a count, then such a number", []byte{100, 128, 0}, api.ErrMany, 3},
		{"too great a count, then one that is not over", []byte{100, 128}, api.ErrMany, 3},
		{"too great a count, then another one", []byte{100, 0, 100}, api.ErrMany, 3},
		{"a count below 0, then a list too deep", joined([]byte{2, 0, 1}, deep(7, 0)), api.ErrMany, 5},
		{"a list too deep, then a count below 0", joined([]byte{2, 0}, deep(6, 0, 1)), api.ErrDeep, 23},
		{"a list too deep, then a number that is not over", joined([]byte{2, 0}, deep(6, 2, 128)), api.ErrDeep, 23},
		{"a number with a last byte of nought ahead of a list too deep", joined([]byte{2, 0}, deep(5, 2, 6, 128, 0, 0)), api.ErrRange, 23},
		{"an end of no kind, then a byte that is left", []byte{2, 0, 0, 0, 2, 0, 0, 0, 0, 0}, api.ErrForm, 12},
		{"a type of no kind, then too great a count", []byte{2, 0, 2, 0, 0, 100}, api.ErrMany, 8},
		{"too many functions, one of which is not over", joined([]byte{18}, bytes.Repeat([]byte{0, 0, 0, 2, 0, 0, 0, 6, 0}, 8), []byte{0}), api.ErrShort, 77},
		{"no function, and a byte that is left", []byte{0, 6}, api.ErrForm, 4},
	} {
		b := framed(c.between...)
		if _, fault := Decode(b); fault != (api.Fault{Code: c.code, At: c.at}) {
			t.Errorf("%s: fault %v, want %v at %v", c.what, fault, c.code, c.at)
		}
		wantFault(t, b, c.code, c.at)
	}
}
