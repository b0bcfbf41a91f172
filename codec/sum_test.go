package codec

import (
	"bytes"
	"hash/crc32"
	"slices"
	"testing"
)

func wantSum(t *testing.T, b []byte, want uint32) {
	t.Helper()
	was := slices.Clone(b)
	if got := Sum(b); got != want {
		t.Errorf("Sum(%s) = %#08x, want %#08x", short(b), got, want)
	}
	if !bytes.Equal(b, was) {
		t.Errorf("Sum(%s) changed its bytes", short(was))
	}
}

func rising(n int) []byte {
	b := make([]byte, n)
	for i := range b {
		b[i] = byte(i)
	}
	return b
}

func TestSumsThatAreKnown(t *testing.T) {
	for text, sum := range map[string]uint32{
		"":          0,
		"a":         0xE8B7BE43,
		"abc":       0x352441C2,
		"123456789": 0xCBF43926,
		"The quick brown fox jumps over the lazy dog": 0x414FA339,
		"message digest":             0x20159D7F,
		"abcdefghijklmnopqrstuvwxyz": 0x4C2750BD,
		"\x00":                       0xD202EF8D,
		"\xff":                       0xFF000000,
		"\x00\x00\x00\x00":           0x2144DF1C,
		"\xff\xff\xff\xff":           0xFFFFFFFF,
	} {
		wantSum(t, []byte(text), sum)
	}
	wantSum(t, nil, 0)
	wantSum(t, make([]byte, 32), 0x190A55AD)
	wantSum(t, bytes.Repeat([]byte{255}, 32), 0xFF6CAB0B)
	wantSum(t, rising(32), 0x91267E8A)
}

func TestSumsOfOneAndTwoBytes(t *testing.T) {
	for a := range 256 {
		wantSum(t, []byte{byte(a)}, crc32.ChecksumIEEE([]byte{byte(a)}))
		for b := range 256 {
			pair := []byte{byte(a), byte(b)}
			wantSum(t, pair, crc32.ChecksumIEEE(pair))
		}
	}
}

func TestSumsOfAnyBytes(t *testing.T) {
	r := newMaker(2)
	for n := range 700 {
		b := make([]byte, n)
		r.Read(b)
		wantSum(t, b, crc32.ChecksumIEEE(b))
	}
	for _, n := range []int{19999, 20000, 20001, 1 << 16, 1<<20 + 1} {
		b := make([]byte, n)
		r.Read(b)
		wantSum(t, b, crc32.ChecksumIEEE(b))
	}
}

// A byte more, less or other is another sum.
func TestSumsOfBytesBesideEachOther(t *testing.T) {
	sums := map[uint32]bool{}
	for n := range 300 {
		sums[Sum(make([]byte, n))] = true
	}
	if len(sums) != 300 {
		t.Errorf("300 lists of noughts have %d sums", len(sums))
	}
	b := []byte("a machine of regions")
	for i := range b {
		for bit := range 8 {
			other := slices.Clone(b)
			other[i] ^= 1 << bit
			if Sum(other) == Sum(b) {
				t.Errorf("the bit %d of the byte %d does not count", bit, i)
			}
		}
	}
}

func TestSumReadsNothingBehind(t *testing.T) {
	b := rising(64)
	for n := range b {
		wantSum(t, b[:n], crc32.ChecksumIEEE(rising(n)))
	}
	if !bytes.Equal(b, rising(64)) {
		t.Error("Sum wrote behind the length")
	}
}
