package codec

import "copyhold/api"

// reader has the bytes ahead of the sum. It has read those ahead of the place at.
type reader struct {
	bytes []byte
	at    int
}

// list reads how many things there are, and each one by the function one.
func list[T any](r *reader, one func() T) []T {
	var things []T
	for range r.count() {
		things = append(things, one())
	}
	return things
}

// numbers reads a number into each place, in the order of the bytes.
func (r *reader) numbers(places ...*int) {
	for _, place := range places {
		*place = r.number()
	}
}

func (r *reader) number() int { return int(r.long()) }

func (r *reader) long() int64 { return r.must(r.numberAt(r.at)) }

func (r *reader) count() int64 { return r.must(r.countAt(r.at)) }

// must goes on behind what was read, or gives up.
func (r *reader) must(n int64, behind int, fault api.Fault) int64 {
	if fault.Code != 0 {
		giveUp(fault.Code, fault.At)
	}
	r.at = behind
	return n
}

// numberAt is the number that begins at a place, and the place behind it; or why there is none.
func (r *reader) numberAt(first int) (n int64, behind int, fault api.Fault) {
	var u uint64
	for i, b := range r.bytes[first:] {
		if i == mostBytes-1 && b > 1 || i > 0 && b == 0 {
			return 0, 0, api.Fault{Code: api.ErrRange, At: first + i}
		}
		u |= uint64(b%more) << (groupBits * i)
		if b < more {
			return unfolded(u), first + i + 1, api.Fault{}
		}
	}
	return 0, 0, api.Fault{Code: api.ErrShort, At: len(r.bytes)}
}

// countAt is likewise the count of a list. A thing has a byte at least, so that no more are believed to come than there are bytes.
func (r *reader) countAt(first int) (n int64, behind int, fault api.Fault) {
	n, behind, fault = r.numberAt(first)
	if fault.Code == 0 && (n < 0 || n > int64(len(r.bytes)-behind)) {
		return 0, 0, api.Fault{Code: api.ErrMany, At: first}
	}
	return n, behind, fault
}

// giveUpDeep: where the count of a list that is too deep is wrong at the same byte, that is told, as it is named first; what is wrong with it further on lies behind.
func (r *reader) giveUpDeep() {
	if _, _, fault := r.countAt(r.at); fault.Code != 0 && fault.At == r.at {
		giveUp(fault.Code, fault.At)
	}
	giveUp(api.ErrDeep, r.at)
}
