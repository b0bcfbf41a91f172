package raw

import "copyhold/api"

// ended is what a step panics with where the run ends so.
type ended int

func mustOrEnd(ok bool, end int) {
	if !ok {
		panic(ended(end))
	}
}

// attempt does a step. It may end the run at any depth; here that is caught.
func (m *Machine) attempt(step func()) {
	defer func() {
		if x := recover(); x != nil {
			end, own := x.(ended)
			if !own {
				panic(x)
			}
			m.done, m.outcome.End = true, int(end)
		}
	}()
	step()
}

// halt ends a run with what its first call gives back.
func (m *Machine) halt(back []int64) {
	m.outcome.Back = back
	panic(ended(api.EndHalt))
}
