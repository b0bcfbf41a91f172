package render

import (
	"fmt"
	"math"
	"math/rand"
	"reflect"
	"testing"

	"copyhold/api"
	"copyhold/code"
)

// hold holds Print of a module that was made from a seed against the plain form, and answers the code.
func hold(t *testing.T, seed int64, m api.Module) int {
	t.Helper()
	want, fault := plainPrint(m)
	if fault.Code != 0 {
		wantFault(t, fmt.Sprint("seed ", seed), m, fault.Code, fault.At)
	} else {
		wantText(t, m, want)
	}
	return fault.Code
}

func TestAnyModules(t *testing.T) {
	codes := map[int]int{}
	for seed := range int64(1500) {
		r := newMaker(seed)
		codes[hold(t, seed, r.module())]++
		r.slip = 300
		codes[hold(t, seed, r.module())]++
	}
	if codes[0] < 1500 || codes[api.ErrNumber] < 100 {
		t.Errorf("codes %v", codes)
	}
}

// Of so large functions two have a text that is about as long as may be.
func TestAnyLargeModules(t *testing.T) {
	codes := map[int]int{}
	for seed := range int64(60) {
		r := newMaker(seed)
		r.large = true
		for n := 1; n <= 4; n++ {
			codes[hold(t, seed, r.moduleOf(n))]++
		}
	}
	if codes[0] < 60 || codes[api.ErrMany] < 60 {
		t.Errorf("codes %v", codes)
	}
}

// things are all numbers and lists in a value, the outer ones first.
func things(v reflect.Value) []reflect.Value {
	var all []reflect.Value
	switch v.Kind() {
	case reflect.Struct:
		for i := range v.NumField() {
			all = append(all, things(v.Field(i))...)
		}
	case reflect.Slice:
		all = append(all, v)
		for i := range v.Len() {
			all = append(all, things(v.Index(i))...)
		}
	default:
		all = append(all, v)
	}
	return all
}

func thingsOf(m *api.Module) []reflect.Value { return things(reflect.ValueOf(m).Elem()) }

// changes are the ways in which one number or list is made another one.
func changes(v reflect.Value) []func(v reflect.Value) {
	if v.Kind() != reflect.Slice {
		put := func(n int64) func(v reflect.Value) { return func(v reflect.Value) { v.SetInt(n) } }
		now := v.Int()
		return []func(v reflect.Value){put(now + 1), put(now - 1), put(0), put(1), put(now * 10), put(now + 10), put(1000000), put(-now)}
	}
	all := []func(v reflect.Value){func(v reflect.Value) { v.Set(reflect.Append(v, reflect.Zero(v.Type().Elem()))) }}
	if v.Len() > 0 {
		all = append(all,
			func(v reflect.Value) { v.Set(v.Slice(0, v.Len()-1)) },
			func(v reflect.Value) { v.Set(v.Slice(1, v.Len())) },
			func(v reflect.Value) { v.Set(reflect.Append(v, v.Index(v.Len()-1))) })
	}
	if v.Len() > 1 {
		all = append(all, func(v reflect.Value) { reflect.Swapper(v.Interface())(0, v.Len()-1) })
	}
	return all
}

// holdApart prints a module and all that one change makes of it: what has the same text must be the same.
func holdApart(t *testing.T, m api.Module, texts map[string]api.Module) {
	t.Helper()
	note := func(m api.Module) {
		text, fault := Print(m)
		if fault.Code != 0 {
			return
		}
		if other, ok := texts[text]; ok && !code.Same(other, m) {
			t.Errorf("%s is the text of two modules", short(text))
		}
		texts[text] = m
	}
	note(m)
	for i, v := range thingsOf(&m) {
		for _, change := range changes(v) {
			other := code.Own(m)
			change(thingsOf(&other)[i])
			note(other)
		}
	}
}

func TestModulesThatAreNotTheSameHaveOtherTexts(t *testing.T) {
	texts := map[string]api.Module{}
	holdApart(t, whole(), texts)
	if len(texts) < 200 {
		t.Errorf("%d texts alone", len(texts))
	}
	for seed := range int64(15) {
		holdApart(t, newMaker(seed).module(), texts)
	}
	if len(texts) < 4000 {
		t.Errorf("%d texts alone", len(texts))
	}
}

// spoilt has numbers put anywhere in a module, and lists cut, made longer or doubled.
func spoilt(r *rand.Rand, m api.Module) api.Module {
	wild := []int64{-1, 0, 1, 2, 3, 7, 8, 9, 16, 17, 1000000, 1000001, 1 << 32, math.MinInt64, math.MaxInt64}
	for range 1 + r.Intn(3) {
		all := thingsOf(&m)
		v := all[r.Intn(len(all))]
		switch {
		case v.Kind() != reflect.Slice:
			v.SetInt(wild[r.Intn(len(wild))])
		case v.Len() == 0 || r.Intn(3) == 0:
			v.Set(reflect.Append(v, reflect.Zero(v.Type().Elem())))
		case r.Intn(2) == 0:
			v.Set(v.Slice(0, r.Intn(v.Len()+1)))
		default:
			for range 1 + r.Intn(4) {
				v.Set(reflect.AppendSlice(v, v))
			}
		}
	}
	return m
}

// P1, and what holds everywhere

func TestAnySpoiltModules(t *testing.T) {
	codes := map[int]int{}
	for seed := range int64(4000) {
		r := newMaker(seed)
		m := whole()
		if seed%2 == 0 {
			m = r.module()
		}
		codes[hold(t, seed, spoilt(r.Rand, code.Own(m)))]++
	}
	for _, c := range []int{0, api.ErrMany, api.ErrRange, api.ErrKind, api.ErrForm, api.ErrNumber, api.ErrType} {
		if codes[c] < 10 {
			t.Errorf("the code %d came %d times alone", c, codes[c])
		}
	}
}

// roomy gives each list of a module memory behind its length, with what is no module's in it.
func roomy(v reflect.Value) {
	for _, list := range things(v) {
		if list.Kind() != reflect.Slice {
			continue
		}
		n := list.Len()
		more := reflect.MakeSlice(list.Type(), n+3, n+3)
		reflect.Copy(more, list)
		for i := n; i < n+3; i++ {
			for _, x := range things(more.Index(i)) {
				if x.Kind() != reflect.Slice {
					x.SetInt(-7)
				}
			}
		}
		list.Set(more.Slice(0, n))
	}
}

// wholly tells a value with what lies behind the lengths of its lists.
func wholly(v reflect.Value) string {
	switch v.Kind() {
	case reflect.Struct:
		text := "{"
		for i := range v.NumField() {
			text += wholly(v.Field(i)) + " "
		}
		return text + "}"
	case reflect.Slice:
		text := fmt.Sprint("[", v.Len(), ": ")
		for i := range v.Cap() {
			text += wholly(v.Slice(0, v.Cap()).Index(i)) + " "
		}
		return text + "]"
	}
	return fmt.Sprint(v.Int())
}

func TestWhatLiesBehindALength(t *testing.T) {
	list := []api.Module{whole(), only(back())}
	for seed := range int64(50) {
		list = append(list, newMaker(seed).module())
	}
	for _, m := range list {
		want, fault := Print(m)
		m = code.Own(m)
		v := reflect.ValueOf(&m).Elem()
		roomy(v)
		ahead := wholly(v)
		if got, again := Print(m); got != want || again != fault {
			t.Errorf("%s, %v, want %s", short(got), again, short(want))
		}
		if wholly(v) != ahead {
			t.Errorf("%s: the module, or what lies behind its lists, was changed", short(want))
		}
	}
}

func TestAnswersHangOnTheModuleAlone(t *testing.T) {
	for seed := range int64(200) {
		m, other := newMaker(seed).module(), newMaker(seed+1000).module()
		first, fault := Print(m)
		Print(other)
		Print(api.Module{})
		if again, twice := Print(code.Own(m)); again != first || twice != fault {
			t.Errorf("seed %d: another answer", seed)
		}
	}
}
