package heap

import "copyhold/api"

// region counts its pages alone: which ones they are nobody asks here. A thing's number is its place among things.
type region struct {
	number int
	pages  int
	used   int // words of the last page; more than it has, where a tuple is longer than a page
	things []thing
}

// thing is a tuple or an array, as its kind tells.
type thing struct {
	kind  int
	parts []Val
}

// region answers that of a handle; false: it is no handle, or its region is gone.
func (h *Heap) region(v Val) (*region, bool) {
	r, ok := h.regions[v.Region]
	return r, ok && v.Kind == VHandle
}

// room answers the region of a handle, with so many more of its words in use; with a code nothing has changed.
func (h *Heap) room(v Val, words int) (*region, int) {
	r, ok := h.region(v)
	if !ok {
		return nil, api.ErrStuck
	}
	if r.pages > 0 && r.used+words <= api.PageWords {
		r.used += words
		return r, 0
	}
	if h.left <= 0 {
		return nil, api.ErrFull
	}
	h.left--
	r.pages++
	r.used = words
	return r, 0
}

func (r *region) add(kind int, parts []Val) Val {
	r.things = append(r.things, thing{kind, parts})
	return Val{Kind: kind, Region: r.number, Thing: len(r.things) - 1}
}

// parts answers those of a tuple or an array; false: it is none, its region is gone, or there is no such thing.
func (h *Heap) parts(v Val) ([]Val, bool) {
	r, ok := h.regions[v.Region]
	if !ok || v.Thing < 0 || v.Thing >= len(r.things) {
		return nil, false
	}
	t := r.things[v.Thing]
	return t.parts, t.kind == v.Kind
}

func isPart(parts []Val, k int64) bool {
	return k >= 0 && k < int64(len(parts))
}
