package ideal

import "copyhold/api"

// stuck and ended are what a step panics with: it can't be done, or the run ends so.
type (
	stuck struct{}
	ended int
)

func must(ok bool) {
	if !ok {
		panic(stuck{})
	}
}

func mustOrEnd(ok bool, end int) {
	if !ok {
		panic(ended(end))
	}
}

// mustAnswer: of the codes of a heap one is an end of the run; any other one should never have come up.
func mustAnswer(code, endCode, end int) {
	must(code == 0 || code == endCode)
	mustOrEnd(code == 0, end)
}

// attempt does a step. It may give up at any depth; here that ends.
func (m *Machine) attempt(step func()) {
	defer func() {
		switch up := recover().(type) {
		case nil:
		case stuck:
			m.stuck = api.Fault{Code: api.ErrStuck, At: m.place()}
		case ended:
			m.done, m.outcome.End = true, int(up)
		default:
			panic(up)
		}
	}()
	step()
}
