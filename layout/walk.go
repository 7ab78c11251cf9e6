package layout

import (
	"iter"

	"heddle/api"
	"heddle/types"
)

// pointers answers an iterator over the numbers of those words of type t that are pointers.
func pointers(ts []api.Type, t int) iter.Seq[int] {
	ptrs, _ := types.Pointers(ts, t)
	return func(yield func(int) bool) {
		for i, pointer := range ptrs {
			if pointer && !yield(i) {
				return
			}
		}
	}
}

// partsOf answers the types of a struct's fields or an array's elements; none of another type, whereas a sound struct or array has at least one.
func partsOf(one api.Type) []int {
	switch one.Kind {
	case api.KStruct:
		return one.Fields
	case api.KArray:
		elems := make([]int, one.Len)
		for i := range elems {
			elems[i] = one.Elem
		}
		return elems
	}
	return nil
}

// kindsOf answers the kinds of the cells of type t.
func kindsOf(ts []api.Type, t int) []int {
	return appendKinds(make([]int, 0, api.MaxWidth), ts, t)
}

func appendKinds(list []int, ts []api.Type, t int) []int {
	parts := partsOf(ts[t])
	if len(parts) == 0 {
		return append(list, ts[t].Kind)
	}
	for _, part := range parts {
		list = appendKinds(list, ts, part)
	}
	return list
}

// appendNames answers list with all that a sound value of type t names behind it, what its boxes name included.
func appendNames(list []int, ts []api.Type, t int, v []api.Cell) []int {
	for i, kind := range kindsOf(ts, t) {
		c := v[i]
		switch kind {
		case api.KPtr, api.KMap, api.KIter:
			list = append(list, int(c.N))
		case api.KIface:
			if c.T != 0 {
				list = appendNames(list, ts, c.T-1, c.Box)
			}
		}
	}
	return list
}
