package render

import "copyhold/api"

// maxNum is the greatest number that a text can tell, but for that of an INum.
const maxNum = 1000000

// hasNumsAlone: can a text tell all numbers of a module? Those of its types, its Regs and its Blocks are small already, by code.Check.
func hasNumsAlone(m api.Module) bool {
	return every(m.Funcs, func(f api.Func) bool {
		return every(f.Blocks, func(b api.Block) bool {
			return every(b.Code, insHasNums) && endHasNums(b.End)
		})
	})
}

func insHasNums(x api.Ins) bool {
	return areNums(x.A, x.B, x.C, x.K) && areNums(x.Regs...) && areNums(x.Args...)
}

func endHasNums(e api.End) bool {
	return areNums(e.A) && areNums(e.Args...) && toHasNums(e.Yes) && toHasNums(e.No)
}

func toHasNums(to api.To) bool {
	return areNums(to.Regs...) && areNums(to.Args...)
}

func areNums(numbers ...int) bool {
	return every(numbers, func(n int) bool { return 0 <= n && n <= maxNum })
}
