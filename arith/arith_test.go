package arith

import (
	"math"
	"math/big"
	"testing"

	"copyhold/api"
)

const (
	least    = math.MinInt64
	greatest = math.MaxInt64
)

type opCase struct {
	name string
	k    int
	a, b int64
	want int64
	ok   bool
}

func checkCases(t *testing.T, cases []opCase) {
	t.Helper()
	for _, c := range cases {
		got, ok := Op(c.k, c.a, c.b)
		if got != c.want || ok != c.ok {
			t.Errorf("%s: Op(%d, %d, %d) = %d, %v, want %d, %v", c.name, c.k, c.a, c.b, got, ok, c.want, c.ok)
		}
	}
}

func TestOrdinaryNumbers(t *testing.T) {
	checkCases(t, []opCase{
		{"add", api.KAdd, 2, 3, 5, true},
		{"add", api.KAdd, 2, -3, -1, true},
		{"sub", api.KSub, 2, 3, -1, true},
		{"sub", api.KSub, -2, -3, 1, true},
		{"mul", api.KMul, 6, 7, 42, true},
		{"mul", api.KMul, -6, 7, -42, true},
		{"mul", api.KMul, -6, -7, 42, true},
		{"div", api.KDiv, 42, 6, 7, true},
		{"div", api.KDiv, 43, 6, 7, true},
		{"div", api.KDiv, 5, 6, 0, true},
		{"mod", api.KMod, 43, 6, 1, true},
		{"mod", api.KMod, 42, 6, 0, true},
		{"mod", api.KMod, 5, 6, 5, true},
		{"less", api.KLess, 1, 2, 1, true},
		{"less", api.KLess, 2, 2, 0, true},
		{"less", api.KLess, 3, 2, 0, true},
		{"less", api.KLess, -3, 2, 1, true},
		{"less", api.KLess, 2, -3, 0, true},
		{"eq", api.KEq, 2, 2, 1, true},
		{"eq", api.KEq, 2, 3, 0, true},
		{"eq", api.KEq, 2, -2, 0, true},
		{"and", api.KAnd, 12, 10, 8, true},
		{"and", api.KAnd, -1, 10, 10, true},
		{"xor", api.KXor, 12, 10, 6, true},
		{"xor", api.KXor, -1, 10, -11, true},
	})
}

func TestWrapsRound(t *testing.T) {
	checkCases(t, []opCase{
		{"add above", api.KAdd, greatest, 1, least, true},
		{"add below", api.KAdd, least, -1, greatest, true},
		{"add twice the least", api.KAdd, least, least, 0, true},
		{"sub below", api.KSub, least, 1, greatest, true},
		{"sub above", api.KSub, greatest, -1, least, true},
		{"sub least of 0", api.KSub, 0, least, least, true},
		{"mul above", api.KMul, greatest, 2, -2, true},
		{"mul to 0", api.KMul, 1 << 32, 1 << 32, 0, true},
		{"mul least by -1", api.KMul, least, -1, least, true},
		{"mul greatest by itself", api.KMul, greatest, greatest, 1, true},
		{"div least by -1", api.KDiv, least, -1, least, true},
		{"mod least by -1", api.KMod, least, -1, 0, true},
	})
}

func TestQuotientAndRestBelowZero(t *testing.T) {
	checkCases(t, []opCase{
		{"div", api.KDiv, -7, 2, -3, true},
		{"mod", api.KMod, -7, 2, -1, true},
		{"div", api.KDiv, 7, -2, -3, true},
		{"mod", api.KMod, 7, -2, 1, true},
		{"div", api.KDiv, -7, -2, 3, true},
		{"mod", api.KMod, -7, -2, -1, true},
		{"div", api.KDiv, -1, 2, 0, true},
		{"mod", api.KMod, -1, 2, -1, true},
		{"div least by 1", api.KDiv, least, 1, least, true},
		{"mod least by 1", api.KMod, least, 1, 0, true},
		{"div least by greatest", api.KDiv, least, greatest, -1, true},
		{"mod least by greatest", api.KMod, least, greatest, -1, true},
		{"div greatest by least", api.KDiv, greatest, least, 0, true},
		{"mod greatest by least", api.KMod, greatest, least, greatest, true},
		{"div least by itself", api.KDiv, least, least, 1, true},
		{"mod least by itself", api.KMod, least, least, 0, true},
	})
}

func TestComparesWithoutWrapping(t *testing.T) {
	checkCases(t, []opCase{
		{"less least greatest", api.KLess, least, greatest, 1, true},
		{"less greatest least", api.KLess, greatest, least, 0, true},
		{"less least least", api.KLess, least, least, 0, true},
		{"eq least least", api.KEq, least, least, 1, true},
		{"eq least greatest", api.KEq, least, greatest, 0, true},
		{"eq low halves alike", api.KEq, 1, 1<<32 + 1, 0, true},
	})
}

func TestByZero(t *testing.T) {
	for _, a := range edgeNumbers() {
		checkCases(t, []opCase{
			{"div by 0", api.KDiv, a, 0, 0, false},
			{"mod by 0", api.KMod, a, 0, 0, false},
			{"add 0", api.KAdd, a, 0, a, true},
			{"sub 0", api.KSub, a, 0, a, true},
			{"mul 0", api.KMul, a, 0, 0, true},
			{"and 0", api.KAnd, a, 0, 0, true},
			{"xor 0", api.KXor, a, 0, a, true},
		})
	}
}

func TestNoSuchKind(t *testing.T) {
	// The last two are KAdd and KXor in their low 32 bits.
	wrong := []int{0, -1, -api.KAdd, -api.KDiv, api.KXor + 1, 255, 256 + api.KAdd, math.MinInt, math.MaxInt, 1<<32 + api.KAdd, -1<<32 + api.KXor}
	for _, k := range wrong {
		for _, a := range edgeNumbers() {
			for _, b := range edgeNumbers() {
				checkCases(t, []opCase{{"no such K", k, a, b, 0, false}})
			}
		}
	}
}

func edgeNumbers() []int64 {
	return []int64{
		least, least + 1, -1<<62 - 1, -1 << 62, -1 << 32, -1<<31 - 1, -1 << 31, -7, -2, -1,
		0, 1, 2, 7, 1<<31 - 1, 1 << 31, 1<<32 - 1, 1 << 32, 1 << 62, 1<<62 + 1, greatest - 1, greatest,
	}
}

// wrapped brings an exact number back to 64 bits.
func wrapped(n *big.Int) int64 {
	low := new(big.Int).And(n, new(big.Int).SetUint64(math.MaxUint64))
	return int64(low.Uint64())
}

func oneIf(t bool) *big.Int {
	if t {
		return big.NewInt(1)
	}
	return big.NewInt(0)
}

// exact reckons by the document's words in numbers without bound, so that it
// shares no wrap-round with what is tested.
func exact(k int, a, b int64) (int64, bool) {
	if b == 0 && (k == api.KDiv || k == api.KMod) {
		return 0, false
	}
	x, y, n := big.NewInt(a), big.NewInt(b), new(big.Int)
	switch k {
	case api.KAdd:
		n.Add(x, y)
	case api.KSub:
		n.Sub(x, y)
	case api.KMul:
		n.Mul(x, y)
	case api.KDiv:
		n.Quo(x, y)
	case api.KMod:
		q := big.NewInt(wrapped(n.Quo(x, y)))
		n.Sub(x, q.Mul(q, y))
	case api.KLess:
		n = oneIf(x.Cmp(y) < 0)
	case api.KEq:
		n = oneIf(x.Cmp(y) == 0)
	case api.KAnd:
		n.And(x, y)
	case api.KXor:
		n.Xor(x, y)
	default:
		return 0, false
	}
	return wrapped(n), true
}

func TestAgainstExactNumbers(t *testing.T) {
	for k := api.KAdd - 2; k <= api.KXor+2; k++ {
		for _, a := range edgeNumbers() {
			for _, b := range edgeNumbers() {
				want, ok := exact(k, a, b)
				checkCases(t, []opCase{{"exact", k, a, b, want, ok}})
			}
		}
	}
}
