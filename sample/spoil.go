package sample

import (
	"slices"

	"copyhold/api"
	"copyhold/code"
)

// Spoilt is like m but for some places, and may be no module at all.
func (r Maker) Spoilt(m api.Module) api.Module {
	m = code.Own(m)
	for range 1 + r.pick(3) {
		f := &m.Funcs[r.pick(len(m.Funcs))]
		b := &f.Blocks[r.pick(len(f.Blocks))]
		if len(b.Code) > 0 && r.pick(3) > 0 {
			r.spoilCode(b)
		} else {
			r.spoilEnd(&b.End)
		}
	}
	return m
}

func (r Maker) spoilCode(b *api.Block) {
	at := r.pick(len(b.Code))
	x := &b.Code[at]
	switch r.pick(9) {
	case 0:
		b.Code = slices.Delete(b.Code, at, at+1)
	case 1:
		b.Code = slices.Insert(b.Code, at, api.Ins{Op: api.INum, N: 1})
	case 2:
		k := r.pick(len(b.Code))
		b.Code[at], b.Code[k] = b.Code[k], b.Code[at]
	case 3:
		x.A = r.pick(12)
	case 4:
		x.B = r.pick(12)
	case 5:
		x.K = r.pick(4)
	case 6:
		r.spoilList(&x.Args)
	case 7:
		r.spoilList(&x.Regs)
	case 8:
		b.Code = slices.Insert(b.Code, at, api.Ins{Op: api.IFree, A: r.pick(4)})
	}
}

func (r Maker) spoilEnd(e *api.End) {
	switch r.pick(7) {
	case 0:
		e.A = r.pick(12)
	case 1:
		r.spoilList(&e.Yes.Regs)
	case 2:
		r.spoilList(&e.Yes.Args)
	case 3:
		r.spoilList(&e.No.Regs)
	case 4:
		r.spoilList(&e.No.Args)
	case 5:
		r.spoilList(&e.Args)
	case 6:
		e.Yes, e.No = e.No, e.Yes
	}
}

func (r Maker) spoilList(list *[]int) {
	if len(*list) == 0 {
		return
	}
	at := r.pick(len(*list))
	switch r.pick(3) {
	case 0:
		*list = slices.Delete(*list, at, at+1)
	case 1:
		(*list)[at] = (*list)[r.pick(len(*list))]
	default:
		(*list)[at] = r.pick(14) - 1
	}
}
