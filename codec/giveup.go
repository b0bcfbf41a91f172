package codec

import "copyhold/api"

// gaveUp is what a writer or a reader panics with: the fault that it came upon.
type gaveUp api.Fault

func giveUp(code, at int) {
	panic(gaveUp{Code: code, At: at})
}

// caught does the work, and answers the fault with which it gave up. That may be at any depth; here it ends.
func caught(work func()) (fault api.Fault) {
	defer func() {
		if x := recover(); x != nil {
			up, own := x.(gaveUp)
			if !own {
				panic(x)
			}
			fault = api.Fault(up)
		}
	}()
	work()
	return api.Fault{}
}
