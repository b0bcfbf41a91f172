// Package arith: see doc/01-arith.md.
package arith

import (
	"copyhold/api"
)

// Op answers a k b. It answers 0 and false where there is no such number:
// a quotient or a rest by 0, or a k that is no K of package api.
func Op(k int, a, b int64) (int64, bool) {
	switch k {
	case api.KAdd:
		return a + b, true
	case api.KSub:
		return a - b, true
	case api.KMul:
		return a * b, true
	case api.KDiv:
		return quotient(a, b)
	case api.KMod:
		return rest(a, b)
	case api.KLess:
		return truth(a < b), true
	case api.KEq:
		return truth(a == b), true
	case api.KAnd:
		return a & b, true
	case api.KXor:
		return a ^ b, true
	}
	return 0, false
}

// quotient needs no case for the least number by -1: the language says that
// this quotient wraps round to the least number, without a panic.
func quotient(a, b int64) (int64, bool) {
	if b == 0 {
		return 0, false
	}
	return a / b, true
}

// rest is a - (a / b) * b also where the quotient wraps round: the language
// says that the least number by -1 leaves 0.
func rest(a, b int64) (int64, bool) {
	if b == 0 {
		return 0, false
	}
	return a % b, true
}

// truth stands for a bool among the machine's words, which are all numbers.
func truth(t bool) int64 {
	if t {
		return 1
	}
	return 0
}
