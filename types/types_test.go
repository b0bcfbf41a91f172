package types

import (
	"fmt"
	"math"
	"math/rand"
	"slices"
	"strings"
	"testing"

	"copyhold/api"
)

func intType() api.Type          { return api.Type{Kind: api.TInt} }
func intWithR(r int) api.Type    { return api.Type{Kind: api.TInt, R: r} }
func handleOf(r int) api.Type    { return api.Type{Kind: api.THandle, R: r} }
func arrayAt(r int) api.Type     { return api.Type{Kind: api.TArray, R: r} }
func noKindAt(r int) api.Type    { return api.Type{Kind: 77, R: r} }
func ofKind(k, r int) api.Type   { return api.Type{Kind: k, R: r} }
func within(t api.Type) api.Type { return tupleAt(0, t) }
func tupleOf(n int) api.Type     { return tupleAt(0, slices.Repeat([]api.Type{intType()}, n)...) }
func example() api.Type          { return tupleAt(0, intType(), arrayAt(1)) }
func noughts(n int) []api.Type   { return make([]api.Type, n) }

func allKinds() []int         { return []int{api.TInt, api.THandle, api.TTuple, api.TArray} }
func kindsWithRegion() []int  { return []int{api.THandle, api.TTuple, api.TArray} }
func kindsWithoutList() []int { return []int{api.TInt, api.THandle, api.TArray} }

// wrongKinds has some that are right in their low 32 bits.
func wrongKinds() []int {
	return []int{0, -1, -api.TInt, -api.TTuple, api.TArray + 1, 255, 1<<32 + api.TInt, 1<<32 + api.TTuple, math.MinInt, math.MaxInt}
}

func tupleAt(r int, fields ...api.Type) api.Type {
	return api.Type{Kind: api.TTuple, R: r, L: fields}
}

// nested answers t within that many types of a kind, each at the region 0.
func nested(t api.Type, kind, around int) api.Type {
	for range around {
		t = api.Type{Kind: kind, L: []api.Type{t}}
	}
	return t
}

func wantCheck(t *testing.T, what string, u api.Type, regs, want int) {
	t.Helper()
	if got := Check(u, regs); got != want {
		t.Errorf("%s: Check(%v, %d) = %d, want %d", what, u, regs, got, want)
	}
}

func wantSame(t *testing.T, what string, a, b api.Type, want bool) {
	t.Helper()
	if got := Same(a, b); got != want {
		t.Errorf("%s: Same(%v, %v) = %v, want %v", what, a, b, got, want)
	}
	if got := Same(b, a); got != want {
		t.Errorf("%s: Same(%v, %v) = %v, want %v", what, b, a, got, want)
	}
}

func wantRename(t *testing.T, what string, u api.Type, to []int, want api.Type) {
	t.Helper()
	if got, ok := Rename(u, to); !ok || told(got) != told(want) {
		t.Errorf("%s: Rename(%v, %v) = %v, %v, want %v, true", what, u, to, got, ok, want)
	}
}

func wantNoRename(t *testing.T, what string, u api.Type, to []int) {
	t.Helper()
	got, ok := Rename(u, to)
	if ok || got.Kind != 0 || got.R != 0 || len(got.L) != 0 {
		t.Errorf("%s: Rename(%v, %v) = %v, %v, want the zero type, false", what, u, to, got, ok)
	}
}

func wantText(t *testing.T, u api.Type, want string) {
	t.Helper()
	if got := Text(u); got != want {
		t.Errorf("Text(%v) = %q, want %q", u, got, want)
	}
}

// told writes every field out, so that tests hold types against each other without Same; no list and an empty one are told alike.
func told(t api.Type) string {
	return fmt.Sprint(t)
}

// P4.1

func TestCheckOfEachKindAlone(t *testing.T) {
	wantCheck(t, "int", intType(), 1, 0)
	wantCheck(t, "handle", handleOf(2), 3, 0)
	wantCheck(t, "array", arrayAt(2), 3, 0)
	wantCheck(t, "tuple", tupleAt(2), 3, 0)
	wantCheck(t, "tuple with an empty list", api.Type{Kind: api.TTuple, L: []api.Type{}}, 1, 0)
	wantCheck(t, "int with an empty list", api.Type{Kind: api.TInt, L: []api.Type{}}, 1, 0)
	wantCheck(t, "handle with an empty list", api.Type{Kind: api.THandle, L: []api.Type{}}, 1, 0)
	wantCheck(t, "array with an empty list", api.Type{Kind: api.TArray, L: []api.Type{}}, 1, 0)
}

func TestCheckOfTuples(t *testing.T) {
	wantCheck(t, "each kind", tupleAt(1, intType(), handleOf(0), arrayAt(2), tupleAt(1)), 3, 0)
	wantCheck(t, "tuples in tuples", tupleAt(0, tupleAt(1, tupleAt(2, handleOf(1)), intType()), tupleAt(2)), 3, 0)
	wantCheck(t, "the example", example(), 2, 0)
	wantCheck(t, "the example over one region", example(), 1, api.ErrRange)
}

func TestCheckOfTheDeepest(t *testing.T) {
	for _, inner := range []api.Type{intType(), handleOf(0), arrayAt(0), tupleAt(0)} {
		for around := range api.MaxNested + 1 {
			wantCheck(t, "not too deep", nested(inner, api.TTuple, around), 1, 0)
		}
		for more := 1; more <= 3; more++ {
			wantCheck(t, "too deep", nested(inner, api.TTuple, api.MaxNested+more), 1, api.ErrDeep)
		}
	}
}

func TestCheckFindsDepthAnywhere(t *testing.T) {
	deepest := nested(intType(), api.TTuple, api.MaxNested)
	for at := range 4 {
		fields := []api.Type{intType(), arrayAt(0), tupleAt(0), handleOf(0)}
		fields[at] = deepest
		wantCheck(t, "one field too deep", tupleAt(0, fields...), 1, api.ErrDeep)
		fields[at] = deepest.L[0]
		wantCheck(t, "one field at the bound", tupleAt(0, fields...), 1, 0)
	}
	wantCheck(t, "the last field of the innermost", nested(tupleAt(0, intType(), within(intType())), api.TTuple, api.MaxNested-1), 1, api.ErrDeep)
}

func TestCheckCountsDepthWhateverTheKind(t *testing.T) {
	for _, kind := range append(wrongKinds(), kindsWithoutList()...) {
		code := api.ErrForm
		if kind < api.TInt || kind > api.TArray {
			code = api.ErrKind
		}
		wantCheck(t, "at the bound", nested(intType(), kind, api.MaxNested), 1, code)
		wantCheck(t, "one deeper", nested(intType(), kind, api.MaxNested+1), 1, api.ErrDeep)
		wantCheck(t, "the outer ones tuples", nested(nested(intType(), kind, 1), api.TTuple, api.MaxNested), 1, api.ErrDeep)
	}
}

func TestCheckTellsDepthAheadOfAllElse(t *testing.T) {
	deep := nested(intType(), api.TTuple, api.MaxNested)
	wantCheck(t, "of no kind", api.Type{L: []api.Type{deep}}, 1, api.ErrDeep)
	wantCheck(t, "an int with R", api.Type{Kind: api.TInt, R: 1, L: []api.Type{deep}}, 1, api.ErrDeep)
	wantCheck(t, "too many fields", tupleAt(0, append(noughts(api.MaxFields), deep)...), 1, api.ErrDeep)
	wantCheck(t, "no region", tupleAt(1, deep), 1, api.ErrDeep)
	wantCheck(t, "no kind to the left", tupleAt(0, noKindAt(0), deep), 1, api.ErrDeep)
	wantCheck(t, "no kind within", nested(noKindAt(0), api.TTuple, api.MaxNested+1), 1, api.ErrDeep)
}

func TestCheckOfNoKind(t *testing.T) {
	for _, kind := range wrongKinds() {
		wantCheck(t, "alone", ofKind(kind, 0), 1, api.ErrKind)
		wantCheck(t, "within a tuple", tupleAt(0, intType(), ofKind(kind, 0)), 1, api.ErrKind)
		wantCheck(t, "within two", nested(ofKind(kind, 0), api.TTuple, 2), 1, api.ErrKind)
		wantCheck(t, "and no region", ofKind(kind, 5), 1, api.ErrKind)
		wantCheck(t, "and a list", api.Type{Kind: kind, L: []api.Type{intType()}}, 1, api.ErrKind)
		wantCheck(t, "and a long list", api.Type{Kind: kind, L: noughts(api.MaxFields + 1)}, 1, api.ErrKind)
	}
	wantCheck(t, "the zero type", api.Type{}, 1, api.ErrKind)
	wantCheck(t, "the zero type, no regions", api.Type{}, 0, api.ErrKind)
}

func TestCheckOfAnIntWithR(t *testing.T) {
	for _, r := range []int{1, -1, 2, 100, 1 << 32, math.MinInt, math.MaxInt} {
		for _, regs := range []int{-1, 0, 1, 3, math.MaxInt} {
			wantCheck(t, "alone", intWithR(r), regs, api.ErrForm)
		}
		wantCheck(t, "within a tuple", tupleAt(0, intType(), intWithR(r)), 3, api.ErrForm)
	}
}

func TestCheckOfAListWhereNoneStands(t *testing.T) {
	for _, kind := range kindsWithoutList() {
		for _, list := range [][]api.Type{{intType()}, {noKindAt(0)}, noughts(api.MaxFields), noughts(api.MaxFields + 1)} {
			with := api.Type{Kind: kind, L: list}
			wantCheck(t, "alone", with, 1, api.ErrForm)
			wantCheck(t, "and no region", api.Type{Kind: kind, R: -1, L: list}, 1, api.ErrForm)
			wantCheck(t, "within a tuple", tupleAt(0, intType(), with), 1, api.ErrForm)
		}
	}
}

func TestCheckOfManyFields(t *testing.T) {
	for n := range api.MaxFields + 1 {
		wantCheck(t, "not too many", tupleOf(n), 1, 0)
		wantCheck(t, "not too many within", within(tupleOf(n)), 1, 0)
	}
	for _, n := range []int{api.MaxFields + 1, api.MaxFields + 2, 1000} {
		wantCheck(t, "too many", tupleOf(n), 1, api.ErrMany)
		wantCheck(t, "too many within", tupleAt(0, intType(), tupleOf(n)), 1, api.ErrMany)
		wantCheck(t, "too many and no region", tupleAt(1, noughts(n)...), 1, api.ErrMany)
		wantCheck(t, "too many of no kind", tupleAt(0, noughts(n)...), 1, api.ErrMany)
	}
	full := tupleOf(api.MaxFields)
	wantCheck(t, "many in all, none of them too many", tupleAt(0, slices.Repeat([]api.Type{full}, api.MaxFields)...), 1, 0)
}

func TestCheckOfRegions(t *testing.T) {
	for _, kind := range kindsWithRegion() {
		for _, regs := range []int{1, 2, api.MaxRegs, api.MaxRegions, 1000, math.MaxInt} {
			wantCheck(t, "the first", ofKind(kind, 0), regs, 0)
			wantCheck(t, "the last", ofKind(kind, regs-1), regs, 0)
			wantCheck(t, "the last, within a tuple", within(ofKind(kind, regs-1)), regs, 0)
			for _, r := range []int{-1, -regs, math.MinInt} {
				wantCheck(t, "below 0", ofKind(kind, r), regs, api.ErrRange)
				wantCheck(t, "below 0, within a tuple", within(ofKind(kind, r)), regs, api.ErrRange)
			}
		}
		for _, regs := range []int{1, 2, api.MaxRegs, 1000} {
			for _, r := range []int{regs, regs + 1, math.MaxInt} {
				wantCheck(t, "behind the last", ofKind(kind, r), regs, api.ErrRange)
				wantCheck(t, "behind the last, within a tuple", within(ofKind(kind, r)), regs, api.ErrRange)
			}
		}
	}
}

func TestCheckOverNoRegions(t *testing.T) {
	for _, regs := range []int{0, -1, -5, math.MinInt} {
		wantCheck(t, "an int", intType(), regs, 0)
		for _, kind := range kindsWithRegion() {
			for _, r := range []int{0, 1, -1, regs, math.MinInt, math.MaxInt} {
				wantCheck(t, "no region at all", ofKind(kind, r), regs, api.ErrRange)
			}
		}
		wantCheck(t, "a tuple", tupleOf(2), regs, api.ErrRange)
	}
}

func TestCheckTellsTheOuterAheadOfTheInner(t *testing.T) {
	wantCheck(t, "range, kind", tupleAt(1, noKindAt(0)), 1, api.ErrRange)
	wantCheck(t, "range, form", tupleAt(1, intWithR(1)), 1, api.ErrRange)
	wantCheck(t, "range, many", tupleAt(1, tupleOf(api.MaxFields+1)), 1, api.ErrRange)
	wantCheck(t, "many, kind", tupleAt(0, noughts(api.MaxFields+1)...), 1, api.ErrMany)
	wantCheck(t, "form, kind", api.Type{Kind: api.THandle, L: noughts(1)}, 1, api.ErrForm)
	wantCheck(t, "inner range, innermost kind", tupleAt(0, tupleAt(7, noKindAt(0))), 1, api.ErrRange)
}

func TestCheckTellsTheLeftAheadOfTheRight(t *testing.T) {
	faulty := []struct {
		t    api.Type
		code int
	}{{noKindAt(0), api.ErrKind}, {intWithR(1), api.ErrForm}, {api.Type{Kind: api.TArray, L: noughts(1)}, api.ErrForm}, {tupleOf(api.MaxFields + 1), api.ErrMany}, {handleOf(1), api.ErrRange}}
	for _, left := range faulty {
		for _, right := range faulty {
			wantCheck(t, "side by side", tupleAt(0, left.t, right.t), 1, left.code)
			wantCheck(t, "apart", tupleAt(0, intType(), left.t, intType(), right.t), 1, left.code)
			wantCheck(t, "the left one deeper", tupleAt(0, within(left.t), right.t), 1, left.code)
			wantCheck(t, "the right one deeper", tupleAt(0, left.t, within(right.t)), 1, left.code)
		}
	}
}

// plainCheck is the chapter's own words over a list of all types that are in t, each with how deep it stands.
func plainCheck(t api.Type, regs int) int {
	all, depths := listed(t)
	if slices.Max(depths) > api.MaxNested {
		return api.ErrDeep
	}
	for _, u := range all {
		isInt, isTuple := u.Kind == api.TInt, u.Kind == api.TTuple
		if !slices.Contains(allKinds(), u.Kind) {
			return api.ErrKind
		}
		if isInt && u.R != 0 || !isTuple && len(u.L) != 0 {
			return api.ErrForm
		}
		if isTuple && len(u.L) > api.MaxFields {
			return api.ErrMany
		}
		if !isInt && !(0 <= u.R && u.R <= regs-1) {
			return api.ErrRange
		}
	}
	return 0
}

// listed goes through t the outer one first, from the left, by a stack of its own.
func listed(t api.Type) (all []api.Type, depths []int) {
	left, deep := []api.Type{t}, []int{0}
	for len(left) > 0 {
		last := len(left) - 1
		u, d := left[last], deep[last]
		left, deep = left[:last], deep[:last]
		all, depths = append(all, u), append(depths, d)
		for _, inner := range slices.Backward(u.L) {
			left, deep = append(left, inner), append(deep, d+1)
		}
	}
	return all, depths
}

// anyType is right for the most part, so that runs come to faults deep within, too.
func anyType(r *rand.Rand, depth int) api.Type {
	t := api.Type{Kind: api.TInt + r.Intn(4)}
	if depth > 0 && r.Intn(2) == 0 {
		t.Kind = api.TTuple
	}
	if t.Kind != api.TInt {
		t.R = r.Intn(3)
	}
	if r.Intn(30) == 0 {
		t.R = r.Intn(8) - 4
	}
	if depth > 0 && (t.Kind == api.TTuple || r.Intn(30) == 0) {
		for range r.Intn(4) + r.Intn(10)/9*6 {
			t.L = append(t.L, anyType(r, depth-1))
		}
	}
	if r.Intn(30) == 0 {
		t.Kind = r.Intn(8) - 1
	}
	return t
}

func TestCheckIsAsThePlainCheck(t *testing.T) {
	seen := map[int]int{}
	for seed := range int64(3000) {
		r := rand.New(rand.NewSource(seed))
		u := anyType(r, r.Intn(api.MaxNested+2))
		for regs := -1; regs <= 4; regs++ {
			want := plainCheck(u, regs)
			seen[want]++
			wantCheck(t, fmt.Sprint("seed ", seed), u, regs, want)
		}
	}
	for _, code := range []int{0, api.ErrDeep, api.ErrKind, api.ErrForm, api.ErrMany, api.ErrRange} {
		if seen[code] < 20 {
			t.Errorf("the code %d came %d times alone", code, seen[code])
		}
	}
}

// Same

func TestSameOfEachKind(t *testing.T) {
	for _, a := range allKinds() {
		for _, b := range allKinds() {
			wantSame(t, "alone", ofKind(a, 0), ofKind(b, 0), a == b)
			wantSame(t, "within a tuple", within(ofKind(a, 0)), within(ofKind(b, 0)), a == b)
			wantSame(t, "alone and within", ofKind(a, 0), within(ofKind(b, 0)), false)
		}
	}
}

func TestSameOfRegions(t *testing.T) {
	for _, kind := range append(wrongKinds(), allKinds()...) {
		for _, a := range []int{-1, 0, 1, 1 << 32, math.MinInt, math.MaxInt} {
			for _, b := range []int{-1, 0, 1, 1 << 32, math.MinInt, math.MaxInt} {
				wantSame(t, "alone", ofKind(kind, a), ofKind(kind, b), a == b)
				wantSame(t, "within a tuple", tupleAt(0, intType(), ofKind(kind, a)), tupleAt(0, intType(), ofKind(kind, b)), a == b)
			}
		}
	}
}

func TestSameOfFields(t *testing.T) {
	u := tupleAt(1, intType(), handleOf(2), arrayAt(3))
	wantSame(t, "alike", u, tupleAt(1, intType(), handleOf(2), arrayAt(3)), true)
	wantSame(t, "another region", u, tupleAt(2, intType(), handleOf(2), arrayAt(3)), false)
	wantSame(t, "another order", u, tupleAt(1, handleOf(2), intType(), arrayAt(3)), false)
	wantSame(t, "one fewer", u, tupleAt(1, intType(), handleOf(2)), false)
	wantSame(t, "one fewer ahead", u, tupleAt(1, handleOf(2), arrayAt(3)), false)
	wantSame(t, "one more", u, tupleAt(1, intType(), handleOf(2), arrayAt(3), intType()), false)
	wantSame(t, "another first", u, tupleAt(1, arrayAt(0), handleOf(2), arrayAt(3)), false)
	wantSame(t, "another last", u, tupleAt(1, intType(), handleOf(2), arrayAt(4)), false)
	wantSame(t, "none", u, tupleAt(1), false)
	wantSame(t, "brackets elsewhere", tupleAt(0, tupleAt(0), intType()), tupleAt(0, tupleAt(0, intType())), false)
	wantSame(t, "the very same", u, u, true)
}

func TestSameOfNoListAndAnEmptyOne(t *testing.T) {
	for _, kind := range append(wrongKinds(), allKinds()...) {
		empty := api.Type{Kind: kind, R: 1, L: []api.Type{}}
		wantSame(t, "alone", empty, ofKind(kind, 1), true)
		wantSame(t, "within a tuple", within(empty), within(ofKind(kind, 1)), true)
		wantSame(t, "one element", api.Type{Kind: kind, R: 1, L: noughts(1)}, empty, false)
	}
}

func TestSameAtAnyDepth(t *testing.T) {
	for _, kind := range append(wrongKinds(), allKinds()...) {
		for _, around := range []int{1, 2, api.MaxNested, api.MaxNested + 1, 50} {
			wantSame(t, "alike", nested(arrayAt(1), kind, around), nested(arrayAt(1), kind, around), true)
			wantSame(t, "another R at the bottom", nested(arrayAt(1), kind, around), nested(arrayAt(2), kind, around), false)
			wantSame(t, "another kind at the bottom", nested(arrayAt(1), kind, around), nested(handleOf(1), kind, around), false)
			wantSame(t, "one deeper", nested(arrayAt(1), kind, around), nested(arrayAt(1), kind, around+1), false)
		}
	}
}

func TestSameIsAsWhatIsTold(t *testing.T) {
	alike := 0
	for seed := range int64(4000) {
		r := rand.New(rand.NewSource(seed))
		a, b := anyType(r, r.Intn(3)), anyType(r, r.Intn(3))
		want := told(a) == told(b)
		if want {
			alike++
		}
		wantSame(t, fmt.Sprint("seed ", seed), a, b, want)
		wantSame(t, fmt.Sprint("seed ", seed, ", a copy"), a, copied(a), true)
	}
	if alike < 20 {
		t.Errorf("two were alike %d times alone", alike)
	}
}

func copied(t api.Type) api.Type {
	var list []api.Type
	for _, inner := range t.L {
		list = append(list, copied(inner))
	}
	return api.Type{Kind: t.Kind, R: t.R, L: list}
}

// P4.2

func TestRenameOfTheExample(t *testing.T) {
	wantRename(t, "the example", example(), []int{5, 3}, tupleAt(5, intType(), arrayAt(3)))
}

func TestRenameOfEachKind(t *testing.T) {
	to := []int{4, 0, 9}
	wantRename(t, "int", intType(), to, intType())
	for r, want := range to {
		for _, kind := range kindsWithRegion() {
			wantRename(t, "alone", ofKind(kind, r), to, ofKind(kind, want))
			wantRename(t, "within a tuple", tupleAt(1, intType(), ofKind(kind, r)), to, tupleAt(0, intType(), ofKind(kind, want)))
		}
	}
	wantRename(t, "tuples in tuples",
		tupleAt(0, tupleAt(1, tupleAt(2, handleOf(1)), intType()), tupleAt(2), arrayAt(0)), to,
		tupleAt(4, tupleAt(0, tupleAt(9, handleOf(0)), intType()), tupleAt(9), arrayAt(4)))
}

func TestRenameTakesEachNumberOnce(t *testing.T) {
	wantRename(t, "turned round", tupleAt(0, handleOf(1), arrayAt(2)), []int{1, 2, 0}, tupleAt(1, handleOf(2), arrayAt(0)))
	wantRename(t, "all to one", tupleAt(0, handleOf(1), arrayAt(2)), []int{7, 7, 7}, tupleAt(7, handleOf(7), arrayAt(7)))
	wantRename(t, "to themselves", tupleAt(0, handleOf(1), arrayAt(2)), []int{0, 1, 2}, tupleAt(0, handleOf(1), arrayAt(2)))
	wantRename(t, "to the greatest", handleOf(0), []int{math.MaxInt}, handleOf(math.MaxInt))
}

func TestRenameLeavesTheROfInts(t *testing.T) {
	for _, r := range []int{1, 2, -1, 100, math.MinInt, math.MaxInt} {
		for _, to := range [][]int{nil, {}, {-1}, {5, 6}, {5, -1, 7}} {
			wantRename(t, "alone", intWithR(r), to, intWithR(r))
		}
		wantRename(t, "within a tuple", tupleAt(0, intWithR(r), handleOf(1)), []int{5, 6}, tupleAt(5, intWithR(r), handleOf(6)))
	}
	wantRename(t, "what stands in it is renamed", api.Type{Kind: api.TInt, R: 1, L: []api.Type{handleOf(1)}}, []int{5, 6}, api.Type{Kind: api.TInt, R: 1, L: []api.Type{handleOf(6)}})
	wantNoRename(t, "what stands in it has no name", api.Type{Kind: api.TInt, L: []api.Type{handleOf(2)}}, []int{5, 6})
}

func TestRenameOfOthers(t *testing.T) {
	for _, kind := range wrongKinds() {
		wantRename(t, "of no kind", ofKind(kind, 1), []int{5, 6}, ofKind(kind, 6))
		wantRename(t, "of no kind, with a list", api.Type{Kind: kind, L: []api.Type{arrayAt(1)}}, []int{5, 6}, api.Type{Kind: kind, R: 5, L: []api.Type{arrayAt(6)}})
		wantNoRename(t, "of no kind, no name", ofKind(kind, 2), []int{5, 6})
	}
	for _, kind := range []int{api.THandle, api.TArray} {
		wantRename(t, "with a list", api.Type{Kind: kind, L: []api.Type{arrayAt(1)}}, []int{5, 6}, api.Type{Kind: kind, R: 5, L: []api.Type{arrayAt(6)}})
		wantNoRename(t, "with a list of no name", api.Type{Kind: kind, L: []api.Type{arrayAt(2)}}, []int{5, 6})
	}
	many := tupleAt(1, slices.Repeat([]api.Type{handleOf(0)}, 3*api.MaxFields)...)
	wantRename(t, "many fields", many, []int{5, 6}, tupleAt(6, slices.Repeat([]api.Type{handleOf(5)}, 3*api.MaxFields)...))
	wantRename(t, "deep", nested(arrayAt(1), api.TTuple, 20), []int{0, 6}, nested(arrayAt(6), api.TTuple, 20))
}

func TestRenameOfTheLastAndTheOneBehind(t *testing.T) {
	for n := 1; n <= 20; n++ {
		to := make([]int, n)
		to[n-1] = 100 + n
		for _, kind := range kindsWithRegion() {
			wantRename(t, "the last", ofKind(kind, n-1), to, ofKind(kind, 100+n))
			wantNoRename(t, "the one behind", ofKind(kind, n), to)
			wantNoRename(t, "the one behind, within a tuple", tupleAt(0, intType(), ofKind(kind, n), intType()), to)
		}
	}
}

func TestRenameRefusesWhatHasNoName(t *testing.T) {
	for _, kind := range kindsWithRegion() {
		for _, r := range []int{-1, -2, 2, 3, math.MinInt, math.MaxInt} {
			wantNoRename(t, "no such place", ofKind(kind, r), []int{5, 6})
			wantNoRename(t, "no such place, within a tuple", tupleAt(0, intType(), ofKind(kind, r)), []int{5, 6})
			wantNoRename(t, "no such place, tuples in tuples", nested(tupleAt(1, ofKind(kind, r), intType()), api.TTuple, 3), []int{5, 6})
		}
		for _, to := range [][]int{nil, {}} {
			wantNoRename(t, "no place at all", ofKind(kind, 0), to)
			wantNoRename(t, "no place at all, below 0", ofKind(kind, -1), to)
		}
		for _, below := range []int{-1, -2, math.MinInt} {
			wantNoRename(t, "below 0", ofKind(kind, 0), []int{below, 6})
			wantNoRename(t, "below 0, within a tuple", tupleAt(1, ofKind(kind, 0), intType()), []int{below, 6})
			wantRename(t, "below 0 elsewhere", ofKind(kind, 1), []int{below, 6, below}, ofKind(kind, 6))
		}
	}
	wantNoRename(t, "the outer one alone", tupleAt(2, intType(), handleOf(0)), []int{5, 6})
}

func TestRenameReadsNothingBehindTheLength(t *testing.T) {
	to := []int{5, 6, 7}
	wantNoRename(t, "of to", handleOf(2), to[:2])
	fields := []api.Type{intType(), handleOf(0), handleOf(9)}
	wantRename(t, "of L", tupleAt(1, fields[:2]...), to, tupleAt(6, intType(), handleOf(5)))
}

// plainRename writes the new R of each type of the list of them all, and builds the type up again from that list.
func plainRename(t api.Type, to []int) (api.Type, bool) {
	all, _ := listed(t)
	var rs []int
	for _, u := range all {
		if u.Kind == api.TInt {
			rs = append(rs, u.R)
			continue
		}
		if u.R < 0 || len(to) <= u.R || to[u.R] < 0 {
			return api.Type{}, false
		}
		rs = append(rs, to[u.R])
	}
	next := 0
	var build func(u api.Type) api.Type
	build = func(u api.Type) api.Type {
		made := ofKind(u.Kind, rs[next])
		next++
		for _, inner := range u.L {
			made.L = append(made.L, build(inner))
		}
		return made
	}
	return build(t), true
}

func TestRenameIsAsThePlainRename(t *testing.T) {
	seen := map[bool]int{}
	for seed := range int64(3000) {
		r := rand.New(rand.NewSource(seed))
		u := anyType(r, r.Intn(api.MaxNested+2))
		to := make([]int, r.Intn(6))
		for i := range to {
			to[i] = r.Intn(20) - r.Intn(8)/7*20
		}
		want, ok := plainRename(u, to)
		seen[ok]++
		if ok {
			wantRename(t, fmt.Sprint("seed ", seed), u, to, want)
		} else {
			wantNoRename(t, fmt.Sprint("seed ", seed), u, to)
		}
	}
	if seen[true] < 100 || seen[false] < 100 {
		t.Errorf("answers %v: too few of one", seen)
	}
}

// P4.3

func TestTextOfEachKind(t *testing.T) {
	wantText(t, intType(), "int")
	wantText(t, handleOf(0), "handle 0")
	wantText(t, handleOf(12), "handle 12")
	wantText(t, arrayAt(3), "array 3")
	wantText(t, tupleAt(4), "tuple 4 ()")
	wantText(t, api.Type{Kind: api.TTuple, R: 4, L: []api.Type{}}, "tuple 4 ()")
}

func TestTextOfTuples(t *testing.T) {
	wantText(t, tupleAt(0, intType()), "tuple 0 (int)")
	wantText(t, tupleAt(1, handleOf(2)), "tuple 1 (handle 2)")
	wantText(t, tupleAt(1, arrayAt(2)), "tuple 1 (array 2)")
	wantText(t, tupleAt(1, tupleAt(2)), "tuple 1 (tuple 2 ())")
	wantText(t, example(), "tuple 0 (int, array 1)")
	wantText(t, tupleAt(5, intType(), handleOf(1), arrayAt(2), tupleAt(3)), "tuple 5 (int, handle 1, array 2, tuple 3 ())")
	wantText(t, tupleAt(0, tupleAt(1, tupleAt(2, handleOf(1)), intType()), tupleAt(2)), "tuple 0 (tuple 1 (tuple 2 (handle 1), int), tuple 2 ())")
}

func TestTextOfWhatIsNoType(t *testing.T) {
	for _, kind := range wrongKinds() {
		wantText(t, ofKind(kind, 0), "int")
		wantText(t, ofKind(kind, 5), "int")
		wantText(t, api.Type{Kind: kind, R: 5, L: []api.Type{handleOf(1)}}, "int")
		wantText(t, tupleAt(0, ofKind(kind, 5), handleOf(1)), "tuple 0 (int, handle 1)")
	}
	wantText(t, intWithR(7), "int")
	wantText(t, api.Type{Kind: api.TInt, L: []api.Type{handleOf(1)}}, "int")
	wantText(t, api.Type{Kind: api.THandle, R: 2, L: []api.Type{handleOf(1)}}, "handle 2")
	wantText(t, api.Type{Kind: api.TArray, R: 2, L: []api.Type{handleOf(1)}}, "array 2")
	wantText(t, handleOf(-1), "handle -1")
	wantText(t, arrayAt(math.MinInt), "array -9223372036854775808")
	wantText(t, tupleAt(math.MaxInt, intType()), "tuple 9223372036854775807 (int)")
	wantText(t, tupleOf(api.MaxFields+2), "tuple 0 (int, int, int, int, int, int, int, int, int, int)")
	wantText(t, nested(arrayAt(1), api.TTuple, api.MaxNested+2), strings.Repeat("tuple 0 (", api.MaxNested+2)+"array 1"+strings.Repeat(")", api.MaxNested+2))
}

// What holds everywhere

// roomy puts every list into memory that goes on behind its length, and answers all of that memory, too.
func roomy(t api.Type) (api.Type, [][]api.Type) {
	list := make([]api.Type, len(t.L)+2)
	all := [][]api.Type{list}
	for i, inner := range t.L {
		made, more := roomy(inner)
		list[i], all = made, append(all, more...)
	}
	for i := len(t.L); i < len(list); i++ {
		list[i] = noKindAt(99)
	}
	return api.Type{Kind: t.Kind, R: t.R, L: list[:len(t.L)]}, all
}

func TestWhatIsHandedInStays(t *testing.T) {
	for seed := range int64(500) {
		r := rand.New(rand.NewSource(seed))
		u := anyType(r, 1+r.Intn(api.MaxNested+1))
		a, memory := roomy(u)
		names := []int{5, 3, 4, 8, -1, 9}
		to := names[:3]
		ahead := fmt.Sprint(a, memory, names)
		if Check(a, 3) != Check(u, 3) || Text(a) != Text(u) || !Same(a, u) || !Same(u, a) {
			t.Errorf("seed %d: what lies behind a length is looked at", seed)
		}
		got, ok := Rename(a, to)
		want, wantOK := Rename(u, to)
		if ok != wantOK || told(got) != told(want) {
			t.Errorf("seed %d: Rename = %v, %v, want %v, %v", seed, got, ok, want, wantOK)
		}
		if now := fmt.Sprint(a, memory, names); now != ahead {
			t.Errorf("seed %d: handed in %s, now %s", seed, ahead, now)
		}
	}
}

// spoil overwrites all of the memory of the lists of a type, and what it may grow into.
func spoil(t api.Type) {
	whole := t.L[:cap(t.L)]
	for i := range whole {
		spoil(whole[i])
		whole[i] = noKindAt(-9)
	}
}

func TestRenameAnswersNewMemory(t *testing.T) {
	for _, kind := range append(wrongKinds(), allKinds()...) {
		to := []int{0, 1, 2}
		u := api.Type{Kind: kind, L: []api.Type{tupleAt(1, handleOf(2), intType()), {Kind: api.TInt, L: []api.Type{arrayAt(1)}}, tupleAt(0)}}
		ahead := told(u)
		first, _ := Rename(u, to)
		second, _ := Rename(u, to)
		spoil(first)
		if told(u) != ahead || told(second) != ahead {
			t.Errorf("behind a change of the answer: handed in %v, answered again %v, want %s", u, second, ahead)
		}
		spoil(u)
		to[0], to[1], to[2] = 7, 8, 9
		if told(second) != ahead {
			t.Errorf("behind a change of what was handed in: %v, want %s", second, ahead)
		}
	}
}

func TestListsOfOneAnswerShareNothing(t *testing.T) {
	shared := []api.Type{handleOf(0), handleOf(1)}
	u := tupleAt(0, tupleAt(0, shared...), tupleAt(0, shared...), tupleAt(1, shared[:1]...))
	got, ok := Rename(u, []int{5, 6})
	if !ok || len(got.L) != 3 {
		t.Fatalf("Rename = %v, %v", got, ok)
	}
	right := told(api.Type{L: got.L[1:]})
	spoil(got.L[0])
	if now := told(api.Type{L: got.L[1:]}); now != right {
		t.Errorf("behind a change of the first field: %s, want %s", now, right)
	}
	last := told(got.L[2])
	spoil(got.L[1])
	if now := told(got.L[2]); now != last {
		t.Errorf("behind a change of the second field: %s, want %s", now, last)
	}
}

func TestAnswersStayTheSame(t *testing.T) {
	for seed := range int64(200) {
		r := rand.New(rand.NewSource(seed))
		u := anyType(r, 3)
		once, ok := Rename(u, []int{2, 1, 0})
		ahead := fmt.Sprint(Check(u, 2), Same(u, once), once, ok, Text(u))
		Rename(anyType(r, 3), []int{9})
		Text(anyType(r, 3))
		again, ok := Rename(u, []int{2, 1, 0})
		if now := fmt.Sprint(Check(u, 2), Same(u, again), again, ok, Text(u)); now != ahead {
			t.Errorf("seed %d: %s, then %s", seed, ahead, now)
		}
	}
}

// P1: the document's bound is 2^16 parts nested in one another.
func TestTheDeepestThatIsPromised(t *testing.T) {
	const around = 1<<16 - 1
	for _, kind := range append([]int{0}, allKinds()...) {
		a, b := nested(arrayAt(0), kind, around), nested(arrayAt(1), kind, around)
		if got := Check(a, 1); got != api.ErrDeep {
			t.Errorf("kind %d: Check = %d, want %d", kind, got, api.ErrDeep)
		}
		if !Same(a, a) || Same(a, b) {
			t.Errorf("kind %d: Same does not look at the bottom", kind)
		}
		if got, ok := Rename(b, []int{0, 0}); !ok || !Same(got, a) {
			t.Errorf("kind %d: Rename does not come to the bottom", kind)
		}
		if got, ok := Rename(b, []int{0}); ok || len(got.L) != 0 {
			t.Errorf("kind %d: Rename lets by what has no name at the bottom", kind)
		}
	}
	deep := Text(nested(arrayAt(1), api.TTuple, around))
	if want := strings.Repeat("tuple 0 (", around) + "array 1" + strings.Repeat(")", around); deep != want {
		t.Errorf("the text has %d bytes, want %d", len(deep), len(want))
	}
}

func TestVeryWideTypes(t *testing.T) {
	const n = 1 << 18
	wide := tupleAt(0, slices.Repeat([]api.Type{handleOf(1)}, n)...)
	wantWide := tupleAt(3, slices.Repeat([]api.Type{handleOf(4)}, n)...)
	if got := Check(wide, 2); got != api.ErrMany {
		t.Errorf("Check = %d, want %d", got, api.ErrMany)
	}
	if got, ok := Rename(wide, []int{3, 4}); !ok || !Same(got, wantWide) || Same(got, wide) {
		t.Error("Rename of a wide tuple is another one")
	}
	if got, want := Text(wide), "tuple 0 ("+strings.Repeat("handle 1, ", n-1)+"handle 1)"; got != want {
		t.Errorf("the text has %d bytes, want %d", len(got), len(want))
	}
}
