package parse

import (
	"copyhold/api"
	"copyhold/token"
)

const (
	maxNum    = 1000000 // the greatest NUM
	maxListed = 100     // things in one pair of brackets
)

// reader has the tokens that are left of a text of length bytes. It looks at a token ahead of taking it, so that a fault is always one of the next token.
type reader struct {
	left   []token.Token
	length int
}

// gaveUp is what a reader panics with: the fault that it came upon.
type gaveUp api.Fault

// read answers the module that the tokens are, or why they are none. A reader gives up at any depth; here that ends.
func read(tokens []token.Token, length int) (m api.Module, fault api.Fault) {
	defer func() {
		if x := recover(); x != nil {
			up, own := x.(gaveUp)
			if !own {
				panic(x)
			}
			m, fault = api.Module{}, api.Fault(up)
		}
	}()
	r := &reader{left: tokens, length: length}
	return r.module(), api.Fault{}
}

// giveUp: where no token is left, whatever must come is what the text ends ahead of.
func (r *reader) giveUp(code int) {
	if len(r.left) == 0 {
		panic(gaveUp{Code: api.ErrShort, At: r.length})
	}
	panic(gaveUp{Code: code, At: r.left[0].At})
}

// next is the next token; where none is left it is one that is neither a word nor a number nor a sign.
func (r *reader) next() token.Token {
	if len(r.left) == 0 {
		return token.Token{}
	}
	return r.left[0]
}

func (r *reader) take() { r.left = r.left[1:] }

// took takes the next token, if it is this one.
func (r *reader) took(text string) bool {
	if r.next().Text != text {
		return false
	}
	r.take()
	return true
}

func (r *reader) must(text string) {
	if !r.took(text) {
		r.giveUp(api.ErrForm)
	}
}

// which is the kind whose word the next token is, of those kinds that have one; 0: it is none of them.
func (r *reader) which(word func(k int) string) int {
	for k := 1; word(k) != ""; k++ {
		if r.next().Text == word(k) {
			return k
		}
	}
	return 0
}

func (r *reader) mustWhich(word func(k int) string) int {
	k := r.which(word)
	if k == 0 {
		r.giveUp(api.ErrForm)
	}
	return k
}

func (r *reader) long() int64 {
	t := r.next()
	if !t.Num {
		r.giveUp(api.ErrForm)
	}
	r.take()
	return t.N
}

func (r *reader) num() int {
	if t := r.next(); t.Num && (t.N < 0 || t.N > maxNum) {
		r.giveUp(api.ErrNumber)
	}
	return int(r.long())
}

// nums reads a NUM into each place, in the order in which the text has them.
func (r *reader) nums(places ...*int) {
	for _, place := range places {
		*place = r.num()
	}
}

// list reads things in brackets, each one by the function one. It counts ahead of looking at the token behind a thing: which one that is makes no difference where there are too many.
func list[T any](r *reader, open, shut string, one func() T) []T {
	r.must(open)
	if r.took(shut) {
		return nil
	}
	var things []T
	for {
		things = append(things, one())
		if len(things) > maxListed {
			r.giveUp(api.ErrMany)
		}
		if r.took(shut) {
			return things
		}
		r.must(",")
	}
}

func (r *reader) regs() []int { return list(r, "<", ">", r.num) }
func (r *reader) args() []int { return list(r, "(", ")", r.num) }
