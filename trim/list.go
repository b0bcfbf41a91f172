package trim

// comeTo is a list of those elements alone that are come to from the first one on, with the numbers by which they name one another. named asks a look of each such number of an element; it is changed in place, so the list must be one's own.
func comeTo[T any](list []T, named func(x *T, look func(k *int))) []T {
	stays := staying(list, named)
	var made []T
	places := make([]int, len(list))
	for i, x := range list {
		if stays[i] {
			places[i] = len(made)
			made = append(made, x)
		}
	}
	for i := range made {
		named(&made[i], func(k *int) { *k = places[*k] })
	}
	return made
}

// staying tells of each element whether it is come to from the first one on.
func staying[T any](list []T, named func(x *T, look func(k *int))) []bool {
	stays := make([]bool, len(list))
	var come func(k *int)
	come = func(k *int) {
		// an element that is looked at once is not looked at again: what names what may go in a circle
		if !stays[*k] {
			stays[*k] = true
			named(&list[*k], come)
		}
	}
	first := 0
	come(&first)
	return stays
}
