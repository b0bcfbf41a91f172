package codec

import (
	"bytes"
	"hash/crc32"
	"math"
	"math/big"
	"math/rand"
	"reflect"
	"slices"
	"strings"

	"copyhold/api"
	"copyhold/code"
)

// The plain form is the chapter's own words: which fields stand behind which, and what a number and a list are, for both ways.

func insFields() map[int]string {
	return map[int]string{
		api.INum:   "N",
		api.IBin:   "A B K",
		api.INew:   "",
		api.IFree:  "A",
		api.ITuple: "A Args",
		api.IGet:   "A K",
		api.ISet:   "A B K",
		api.IArray: "A B",
		api.ILoad:  "A B",
		api.IStore: "A B C",
		api.ILen:   "A",
		api.IIn:    "",
		api.IOut:   "A",
		api.ICall:  "K Regs Args",
	}
}

func endFields() map[int]string {
	return map[int]string{api.EJump: "Yes", api.EIf: "A Yes No", api.ERet: "Args"}
}

// kindField is the field that tells which others a thing has, if there is such a one.
func kindField(v reflect.Value) string {
	switch v.Interface().(type) {
	case api.Type:
		return "Kind"
	case api.Ins, api.End:
		return "Op"
	}
	return ""
}

// otherFields are the fields behind that one.
func otherFields(v reflect.Value) []string {
	switch x := v.Interface().(type) {
	case api.Module:
		return []string{"Funcs"}
	case api.Func:
		return []string{"Regs", "Params", "Results", "Blocks"}
	case api.Block:
		return []string{"Regs", "Params", "Code", "End"}
	case api.To:
		return []string{"Block", "Regs", "Args"}
	case api.Ins:
		return strings.Fields(insFields()[x.Op])
	case api.End:
		return strings.Fields(endFields()[x.Op])
	case api.Type:
		switch x.Kind {
		case api.TInt:
			return nil
		case api.TTuple:
			return []string{"R", "L"}
		}
	}
	return []string{"R"}
}

func plainNumber(n int64) []byte {
	u := new(big.Int).Mul(big.NewInt(2), big.NewInt(n))
	if n < 0 {
		u.Neg(u).Sub(u, big.NewInt(1))
	}
	var b []byte
	for {
		group := new(big.Int)
		u.DivMod(u, big.NewInt(128), group)
		if u.Sign() == 0 {
			return append(b, byte(group.Int64()))
		}
		b = append(b, byte(group.Int64())+128)
	}
}

func spelt(v reflect.Value) []byte {
	switch v.Kind() {
	case reflect.Slice:
		b := plainNumber(int64(v.Len()))
		for i := range v.Len() {
			b = append(b, spelt(v.Index(i))...)
		}
		return b
	case reflect.Struct:
		var b []byte
		if first := kindField(v); first != "" {
			b = spelt(v.FieldByName(first))
		}
		for _, field := range otherFields(v) {
			b = append(b, spelt(v.FieldByName(field))...)
		}
		return b
	}
	return plainNumber(v.Int())
}

// summed is bytes with their sum behind them, in memory of their own.
func summed(b []byte) []byte {
	sum := crc32.ChecksumIEEE(b)
	return append(slices.Clone(b), byte(sum), byte(sum>>8), byte(sum>>16), byte(sum>>24))
}

// framed is what stands between, with the three bytes ahead and the sum behind.
func framed(between ...byte) []byte {
	return summed(append([]byte{67, 72, 1}, between...))
}

// plainBytes are the bytes of a module, even if there are too many or code.Check has a fault.
func plainBytes(m api.Module) []byte { return framed(spelt(reflect.ValueOf(m))...) }

func plainEncode(m api.Module) ([]byte, api.Fault) {
	if fault := code.Check(m); fault.Code != 0 {
		return nil, fault
	}
	if b := plainBytes(m); len(b) <= 20000 {
		return b, api.Fault{}
	}
	return nil, api.Fault{Code: api.ErrMany, At: -1}
}

// plainReader has the bytes ahead of the sum.
type plainReader struct {
	bytes []byte
	at    int
}

// number goes on behind a number, if it is one.
func (r *plainReader) number() (int64, api.Fault) {
	left := r.bytes[r.at:]
	size := 1 + slices.IndexFunc(left, func(b byte) bool { return b < 128 })
	if len(left) >= 10 && left[9] > 1 && (size == 0 || size >= 10) {
		return 0, api.Fault{Code: api.ErrRange, At: r.at + 9}
	}
	if size == 0 {
		return 0, api.Fault{Code: api.ErrShort, At: len(r.bytes)}
	}
	if size > 1 && left[size-1] == 0 {
		return 0, api.Fault{Code: api.ErrRange, At: r.at + size - 1}
	}
	u := new(big.Int)
	for _, b := range slices.Backward(left[:size]) {
		u.Mul(u, big.NewInt(128)).Add(u, big.NewInt(int64(b)&127))
	}
	r.at += size
	half, odd := new(big.Int).DivMod(u, big.NewInt(2), new(big.Int))
	if odd.Sign() != 0 {
		half.Neg(half).Sub(half, big.NewInt(1))
	}
	return half.Int64(), api.Fault{}
}

// count reads how many; deep: of a list of types that is too deep.
func (r *plainReader) count(deep bool) (int64, api.Fault) {
	first := r.at
	n, fault := r.number()
	many := n < 0 || n > int64(len(r.bytes)-r.at)
	switch {
	case fault.Code == api.ErrShort && fault.At == first: // no list begins at a byte of what is between
	case fault.Code == 0 && many: // at one byte the first one counts that is named
		fault = api.Fault{Code: api.ErrMany, At: first}
	case deep: // all else lies behind
		fault = api.Fault{Code: api.ErrDeep, At: first}
	}
	return n, fault
}

// fill reads what stands in v. around: in how many lists of types.
func (r *plainReader) fill(v reflect.Value, around int) api.Fault {
	switch v.Kind() {
	case reflect.Slice:
		_, types := v.Interface().([]api.Type)
		n, fault := r.count(types && around > 5)
		for i := 0; fault.Code == 0 && i < int(n); i++ {
			v.Set(reflect.Append(v, reflect.Zero(v.Type().Elem())))
			fault = r.fill(v.Index(i), around+1)
		}
		return fault
	case reflect.Struct:
		inner := 0
		if _, isType := v.Interface().(api.Type); isType {
			inner = around
		}
		if first := kindField(v); first != "" {
			if fault := r.fill(v.FieldByName(first), inner); fault.Code != 0 {
				return fault
			}
		}
		for _, field := range otherFields(v) {
			if fault := r.fill(v.FieldByName(field), inner); fault.Code != 0 {
				return fault
			}
		}
		return api.Fault{}
	}
	n, fault := r.number()
	v.SetInt(n)
	return fault
}

func plainDecode(b []byte) (api.Module, api.Fault) {
	end := len(b) - 4
	switch {
	case len(b) < 7:
		return api.Module{}, api.Fault{Code: api.ErrShort, At: len(b)}
	case len(b) > 20000:
		return api.Module{}, api.Fault{Code: api.ErrMany, At: 20000}
	case !bytes.Equal(b[:3], []byte{67, 72, 1}):
		return api.Module{}, api.Fault{Code: api.ErrForm}
	case !bytes.Equal(summed(b[:end]), b):
		return api.Module{}, api.Fault{Code: api.ErrSum, At: end}
	}
	var m api.Module
	r := &plainReader{bytes: b[:end], at: 3}
	fault := r.fill(reflect.ValueOf(&m).Elem(), 0)
	switch {
	case fault.Code != 0:
	case r.at < end:
		fault = api.Fault{Code: api.ErrForm, At: r.at}
	case code.Check(m).Code != 0:
		fault = api.Fault{Code: api.ErrKind, At: end}
	default:
		return m, api.Fault{}
	}
	return api.Module{}, fault
}

// maker makes modules that code.Check lets by.
type maker struct {
	*rand.Rand
	large bool // has as many things as may be, for the most part
}

func newMaker(seed int64) maker { return maker{Rand: rand.New(rand.NewSource(seed))} }

func (r maker) count(least, most int) int {
	if r.large {
		return max(least, most-r.Intn(3))
	}
	return least + r.Intn(min(most-least, 3)+1)
}

func (r maker) number() int {
	if r.Intn(4) > 0 {
		return r.Intn(80)
	}
	return int(r.Uint64()) >> r.Intn(64)
}

func (r maker) numbers(most int) []int {
	list := make([]int, r.count(0, most))
	for i := range list {
		list[i] = r.number()
	}
	return list
}

func (r maker) types(regs, around int) []api.Type {
	list := make([]api.Type, r.count(0, 3))
	for i := range list {
		t := api.Type{Kind: api.TInt}
		if regs > 0 && r.Intn(4) > 0 {
			t.Kind, t.R = api.THandle+r.Intn(3), r.Intn(regs)
		}
		if t.Kind == api.TTuple && around < api.MaxNested {
			t.L = r.types(regs, around+1)
		}
		list[i] = t
	}
	return list
}

func (r maker) ins(funcs int) api.Ins {
	x := api.Ins{Op: 1 + r.Intn(api.ICall)}
	for _, field := range strings.Fields(insFields()[x.Op]) {
		switch field {
		case "A":
			x.A = r.number()
		case "B":
			x.B = r.number()
		case "C":
			x.C = r.number()
		case "N":
			x.N = int64(r.Uint64()) >> r.Intn(64)
		case "Regs":
			x.Regs = r.numbers(api.MaxRegs)
		case "Args":
			x.Args = r.numbers(8)
		case "K":
			x.K = 1 + r.Intn(api.MaxFields-1)
			if x.Op == api.ICall {
				x.K = r.Intn(funcs)
			}
		}
	}
	return x
}

func (r maker) to(blocks int) api.To {
	return api.To{Block: r.Intn(blocks), Regs: r.numbers(api.MaxRegions), Args: r.numbers(api.MaxParams)}
}

func (r maker) end(blocks int) api.End {
	switch r.Intn(3) {
	case 0:
		return api.End{Op: api.EJump, Yes: r.to(blocks)}
	case 1:
		return api.End{Op: api.EIf, A: r.number(), Yes: r.to(blocks), No: r.to(blocks)}
	}
	return api.End{Op: api.ERet, Args: r.numbers(api.MaxParams)}
}

func (r maker) block(f api.Func, first bool, funcs, blocks int) api.Block {
	b := api.Block{Regs: f.Regs, Params: f.Params, Code: make([]api.Ins, r.count(0, api.MaxCode)), End: r.end(blocks)}
	if !first {
		b.Regs += r.Intn(api.MaxRegions - f.Regs + 1)
		b.Params = r.types(b.Regs, 0)
	}
	for i := range b.Code {
		b.Code[i] = r.ins(funcs)
	}
	return b
}

func (r maker) module() api.Module { return r.moduleOf(r.count(1, api.MaxFuncs)) }

func (r maker) moduleOf(funcs int) api.Module {
	m := api.Module{Funcs: make([]api.Func, funcs)}
	for i := range m.Funcs {
		f := api.Func{Results: slices.Repeat([]api.Type{{Kind: api.TInt}}, r.count(0, api.MaxParams))}
		if i > 0 {
			f.Regs = r.Intn(api.MaxRegs + 1)
			f.Params, f.Results = r.types(f.Regs, 0), r.types(f.Regs, 0)
		}
		blocks := r.count(1, api.MaxBlocks)
		for b := range blocks {
			f.Blocks = append(f.Blocks, r.block(f, b == 0, funcs, blocks))
		}
		m.Funcs[i] = f
	}
	return m
}

// edgeNumbers are the least and the greatest number of each number of bytes, below 0 and above it, from one byte to ten.
func edgeNumbers() []int64 {
	list := []int64{0, -1, 63, -64, math.MaxInt64, math.MinInt64}
	for size := 2; size <= 10; size++ {
		least := int64(1) << (7*(size-1) - 1)
		list = append(list, least, -least-1, least-1, -least)
	}
	return list
}
