package heap

// Kinds of values.
const (
	VInt    = 1 // N
	VHandle = 2 // of the region Region
	VTuple  = 3 // the thing Thing of the region Region
	VArray  = 4
)

// Val is a value that knows what it is.
type Val struct {
	Kind, Region, Thing int
	N                   int64
}

// bare keeps what the kind of a value names: it may come from outside, and all else of what is answered later must be 0.
func bare(v Val) Val {
	switch v.Kind {
	case VInt:
		return Val{Kind: v.Kind, N: v.N}
	case VHandle:
		return Val{Kind: v.Kind, Region: v.Region}
	case VTuple, VArray:
		return Val{Kind: v.Kind, Region: v.Region, Thing: v.Thing}
	}
	return Val{Kind: v.Kind}
}

func bareAll(l []Val) []Val {
	list := make([]Val, len(l))
	for i, v := range l {
		list[i] = bare(v)
	}
	return list
}
