package codec

import (
	"bytes"
	"fmt"
	"math"
	"math/rand"
	"reflect"
	"slices"
	"testing"

	"copyhold/api"
	"copyhold/code"
)

// holdBytes holds Decode against the plain form, and what it tells against Encode; it answers the code.
func holdBytes(t *testing.T, b []byte) int {
	t.Helper()
	m, fault := plainDecode(b)
	if fault.Code != 0 {
		wantFault(t, b, fault.Code, fault.At)
	} else {
		wantBytes(t, m, b)
	}
	return fault.Code
}

// holdModule holds Encode against the plain form, and what it tells against Decode; it answers the code.
func holdModule(t *testing.T, m api.Module) int {
	t.Helper()
	b, fault := plainEncode(m)
	if fault.Code != 0 {
		wantEncodeFault(t, m, fault.Code, fault.At)
	} else {
		wantBytes(t, m, b)
	}
	return fault.Code
}

// There and back

func TestAnyModules(t *testing.T) {
	for seed := range int64(1500) {
		if c := holdModule(t, newMaker(seed).module()); c != 0 {
			t.Errorf("seed %d: code %d", seed, c)
		}
	}
}

// Of so large functions four or five have about as many bytes as may be.
func TestAnyLargeModules(t *testing.T) {
	codes := map[int]int{}
	for seed := range int64(15) {
		r := newMaker(seed)
		r.large = true
		for n := 1; n <= api.MaxFuncs; n++ {
			codes[holdModule(t, r.moduleOf(n))]++
		}
	}
	if codes[0] < 15 || codes[api.ErrMany] < 15 {
		t.Errorf("codes %v", codes)
	}
}

// Bytes that are not a module's

// few are the bytes of modules that have a part of each kind.
func few() [][]byte {
	all := [][]byte{least(), plainBytes(whole())}
	for _, b := range withTypes(deep(5, 0)...) {
		all = append(all, b)
	}
	for seed := range int64(6) {
		all = append(all, plainBytes(newMaker(seed).moduleOf(2)))
	}
	return all
}

// others are bytes to put for this one: all, or, if there is much to try, those about it, those about 0 and 128, and those with one other bit.
func others(b byte, all bool) []byte {
	if all {
		return rising(256)
	}
	list := []byte{0, 1, 2, 126, 127, 128, 129, 255, b - 2, b - 1, b + 1, b + 2}
	for bit := range 8 {
		list = append(list, b^1<<bit)
	}
	return list
}

func TestEachByteChanged(t *testing.T) {
	codes := map[int]int{}
	for _, b := range few() {
		for at := 3; at < len(b)-4; at++ {
			for _, other := range others(b[at], len(b) < 50) {
				changed := torn(b, at, other)
				codes[holdBytes(t, summed(changed[:len(b)-4]))]++
				if other != b[at] {
					wantFault(t, changed, api.ErrSum, len(b)-4)
				}
			}
		}
	}
	for _, c := range []int{0, api.ErrShort, api.ErrRange, api.ErrMany, api.ErrForm, api.ErrKind} {
		if codes[c] < 100 {
			t.Errorf("the code %d came %d times alone: %v", c, codes[c], codes)
		}
	}
}

func TestBytesCutShort(t *testing.T) {
	for _, b := range few() {
		for n := range len(b) {
			holdBytes(t, b[:n])
			if n < len(b)-4 {
				again := summed(b[:n])
				c := holdBytes(t, again)
				if c != api.ErrShort && c != api.ErrMany {
					t.Errorf("%s: the code %d", short(again), c)
				}
			}
			holdBytes(t, b[n:])
		}
	}
}

func TestBytesPutInAndTakenOut(t *testing.T) {
	for _, b := range few() {
		end := len(b) - 4
		for at := 3; at <= end; at++ {
			for _, more := range []byte{0, 1, 2, 6, 127, 128, 255} {
				holdBytes(t, summed(slices.Insert(slices.Clone(b[:end]), at, more)))
			}
			if at < end {
				holdBytes(t, summed(slices.Delete(slices.Clone(b[:end]), at, at+1)))
			}
		}
	}
}

func TestAnyBytesChanged(t *testing.T) {
	codes := map[int]int{}
	for seed := range int64(300) {
		r := newMaker(seed)
		b := plainBytes(r.module())
		for range 20 {
			changed := slices.Clone(b[:len(b)-4])
			for range 1 + r.Intn(4) {
				changed[3+r.Intn(len(changed)-3)] = []byte{0, 1, 2, 4, 6, 128, 255, byte(r.Intn(256))}[r.Intn(8)]
			}
			codes[holdBytes(t, summed(changed))]++
		}
	}
	for _, c := range []int{0, api.ErrShort, api.ErrRange, api.ErrMany, api.ErrForm, api.ErrKind} {
		if codes[c] < 20 {
			t.Errorf("the code %d came %d times alone: %v", c, codes[c], codes)
		}
	}
}

// Small numbers, so that what is read goes far.
func TestAnyBytes(t *testing.T) {
	codes := map[int]int{}
	r := newMaker(3)
	for range 60000 {
		between := make([]byte, r.Intn(60))
		for i := range between {
			between[i] = byte(r.Intn(4) * 2)
			switch r.Intn(30) {
			case 0:
				between[i] = byte(r.Intn(256))
			case 1, 2:
				between[i] = byte(r.Intn(30))
			}
		}
		codes[holdBytes(t, framed(between...))]++
	}
	for _, c := range []int{api.ErrShort, api.ErrRange, api.ErrMany, api.ErrForm, api.ErrKind} {
		if codes[c] < 100 {
			t.Errorf("the code %d came %d times alone: %v", c, codes[c], codes)
		}
	}
	for range 3000 {
		b := make([]byte, r.Intn(40))
		r.Read(b)
		holdBytes(t, b)
		holdBytes(t, framed(b...))
	}
}

// Tuples alone, so that lists of types are too deep as often as not.
func TestAnyDeepTypes(t *testing.T) {
	codes := map[int]int{}
	r := newMaker(4)
	for range 20000 {
		types := []byte{2}
		for range r.Intn(12) {
			types = append(types, [][]byte{{6, 0, 2}, {6, 2, 2}, {6, 0, 4}, {6, 0, 2}, {2}, {6, 0, 0}, {6, 0, 1}, {6, 0, 128, 0}, {6, 0, 2}, {6, 0, 2}}[r.Intn(10)]...)
		}
		b := framed(joined([]byte{2, 0}, types, make([]byte, r.Intn(3)))...)
		codes[holdBytes(t, b)]++
		codes[holdBytes(t, summed(b[:3+r.Intn(len(b)-6)]))]++
	}
	for _, c := range []int{api.ErrDeep, api.ErrShort, api.ErrRange, api.ErrMany} {
		if codes[c] < 100 {
			t.Errorf("the code %d came %d times alone: %v", c, codes[c], codes)
		}
	}
}

// P1: as many bytes as may be, of which as many lists as may be are read.
func TestGreatListsOfWhatIsNothing(t *testing.T) {
	for _, ahead := range counts() {
		for _, with := range []byte{0, 1, 2, 4, 6, 10, 28} {
			left := 20000 - 7 - len(ahead) - 3
			holdBytes(t, framed(joined(ahead, plainNumber(int64(left)), bytes.Repeat([]byte{with}, left))...))
			holdBytes(t, framed(joined(ahead, plainNumber(8300), bytes.Repeat([]byte{with}, left))...))
		}
	}
	nest := framed(bytes.Repeat([]byte{2, 0}, 9990)...)
	holdBytes(t, nest)
	holdBytes(t, framed(bytes.Repeat([]byte{6, 0, 2}, 6600)...))
}

// Wrong modules

// things are all numbers and lists in a value, the outer ones first.
func things(v reflect.Value) []reflect.Value {
	var all []reflect.Value
	switch v.Kind() {
	case reflect.Struct:
		for i := range v.NumField() {
			all = append(all, things(v.Field(i))...)
		}
	case reflect.Slice:
		all = append(all, v)
		for i := range v.Len() {
			all = append(all, things(v.Index(i))...)
		}
	default:
		all = append(all, v)
	}
	return all
}

// spoilt has numbers put anywhere in a module, and lists cut, made longer or doubled.
func spoilt(r *rand.Rand, m api.Module) api.Module {
	wild := []int64{-1, 0, 1, 2, 3, 7, 8, 9, 16, 17, 64, -65, 1 << 32, math.MinInt64, math.MaxInt64}
	for range 1 + r.Intn(3) {
		all := things(reflect.ValueOf(&m).Elem())
		v := all[r.Intn(len(all))]
		switch {
		case v.Kind() != reflect.Slice:
			v.SetInt(wild[r.Intn(len(wild))])
		case v.Len() == 0 || r.Intn(3) == 0:
			v.Set(reflect.Append(v, reflect.Zero(v.Type().Elem())))
		case r.Intn(2) == 0:
			v.Set(v.Slice(0, r.Intn(v.Len()+1)))
		default:
			for range 1 + r.Intn(4) {
				v.Set(reflect.AppendSlice(v, v))
			}
		}
	}
	return m
}

func TestAnySpoiltModules(t *testing.T) {
	codes := map[int]int{}
	for seed := range int64(3000) {
		r := newMaker(seed)
		m := whole()
		if seed%2 == 0 {
			m = r.module()
		}
		m = spoilt(r.Rand, code.Own(m))
		codes[holdModule(t, m)]++
		holdBytes(t, plainBytes(m))
	}
	for _, c := range []int{0, api.ErrMany, api.ErrRange, api.ErrKind, api.ErrForm, api.ErrType} {
		if codes[c] < 10 {
			t.Errorf("the code %d came %d times alone", c, codes[c])
		}
	}
}

// What holds everywhere

// roomy gives each list of a module memory behind its length, with what is no module's in it.
func roomy(v reflect.Value) {
	for _, list := range things(v) {
		if list.Kind() != reflect.Slice {
			continue
		}
		n := list.Len()
		more := reflect.MakeSlice(list.Type(), n+3, n+3)
		reflect.Copy(more, list)
		for i := n; i < n+3; i++ {
			for _, x := range things(more.Index(i)) {
				if x.Kind() != reflect.Slice {
					x.SetInt(-7)
				}
			}
		}
		list.Set(more.Slice(0, n))
	}
}

// wholly tells a value with what lies behind the lengths of its lists.
func wholly(v reflect.Value) string {
	switch v.Kind() {
	case reflect.Struct:
		text := "{"
		for i := range v.NumField() {
			text += wholly(v.Field(i)) + " "
		}
		return text + "}"
	case reflect.Slice:
		text := fmt.Sprint("[", v.Len(), ": ")
		for i := range v.Cap() {
			text += wholly(v.Slice(0, v.Cap()).Index(i)) + " "
		}
		return text + "]"
	}
	return fmt.Sprint(v.Int())
}

func TestWhatLiesBehindTheListsOfAModule(t *testing.T) {
	list := []api.Module{whole(), onlyCode()}
	for seed := range int64(50) {
		list = append(list, newMaker(seed).module())
	}
	for _, m := range list {
		want := plainBytes(m)
		m = code.Own(m)
		v := reflect.ValueOf(&m).Elem()
		roomy(v)
		ahead := wholly(v)
		if got, fault := Encode(m); fault.Code != 0 || !bytes.Equal(got, want) {
			t.Errorf("%s, %v, want %s", short(got), fault, short(want))
		}
		if wholly(v) != ahead {
			t.Errorf("%s: the module, or what lies behind its lists, was changed", short(want))
		}
	}
}

func TestWhatLiesBehindBytes(t *testing.T) {
	for _, b := range few() {
		for _, behind := range [][]byte{make([]byte, 50), rising(50), b} {
			memory := joined(b, behind)
			was := slices.Clone(memory)
			for n := range len(b) + 1 {
				first, fault := Decode(slices.Clip(slices.Clone(b[:n])))
				again, twice := Decode(memory[:n])
				if fault != twice || look(first) != look(again) {
					t.Errorf("%s: another answer with %s behind", short(b[:n]), short(behind))
				}
			}
			if !bytes.Equal(memory, was) {
				t.Errorf("%s: the memory was changed", short(b))
			}
		}
	}
}

// lists are all lists of a value that have memory.
func lists(v reflect.Value) []reflect.Value {
	var all []reflect.Value
	for _, x := range things(v) {
		if x.Kind() == reflect.Slice && x.Cap() > 0 {
			all = append(all, x)
		}
	}
	return all
}

func TestNoTwoListsShareMemory(t *testing.T) {
	for _, b := range few() {
		m, fault := Decode(b)
		if fault.Code != 0 {
			t.Fatalf("%s: %v", short(b), fault)
		}
		all := append(lists(reflect.ValueOf(&m).Elem()), reflect.ValueOf(b))
		slices.SortFunc(all, func(a, b reflect.Value) int { return int(a.Pointer()) - int(b.Pointer()) })
		for i := 1; i < len(all); i++ {
			a := all[i-1]
			if a.Pointer()+uintptr(a.Cap())*a.Type().Elem().Size() > all[i].Pointer() {
				t.Errorf("%s: two lists share memory", short(b))
			}
		}
	}
}

// What is done to an answer, or to what was handed in, is not seen in another one.
func TestAnswersAreNewMemory(t *testing.T) {
	for seed := range int64(100) {
		m := newMaker(seed).module()
		want := plainBytes(m)
		first, _ := Encode(m)
		second, _ := Encode(m)
		clear(first[:cap(first)])
		if !bytes.Equal(second, want) {
			t.Errorf("seed %d: bytes that are shared", seed)
		}
		got, _ := Decode(second)
		other, _ := Decode(second)
		clear(second[:cap(second)])
		for _, list := range lists(reflect.ValueOf(&other).Elem()) {
			list.Clear()
		}
		if look(got) != look(m) {
			t.Errorf("seed %d: a module that is shared", seed)
		}
		wantBytes(t, m, want)
	}
}

func TestAnswersHangOnTheArgumentsAlone(t *testing.T) {
	for seed := range int64(100) {
		m, other := newMaker(seed).module(), newMaker(seed+1000).module()
		want := plainBytes(m)
		wantBytes(t, m, want)
		Encode(other)
		Encode(api.Module{})
		Decode(want[:len(want)-1])
		Decode(framed(2, 128))
		Encode(sized(20001))
		wantBytes(t, code.Own(m), want)
	}
}
