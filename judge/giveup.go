package judge

// gaveUp is what a State panics with: the code that it came upon.
type gaveUp int

func must(ok bool, code int) {
	if !ok {
		panic(gaveUp(code))
	}
}

// caught does the work, and answers the code with which it gave up; 0: it did not. That may be at any depth; here it ends.
func caught(work func()) (code int) {
	defer func() {
		if x := recover(); x != nil {
			up, own := x.(gaveUp)
			if !own {
				panic(x)
			}
			code = int(up)
		}
	}()
	work()
	return 0
}
