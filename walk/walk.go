// Package walk tells of what types and values are made. It is no layer: several of them walk through values in the same way. All its calls take a sound table of types, one of its types, and a sound value.
package walk

import "heddle/api"

// Parts answers the types of a struct's fields or an array's elements; none of another type, whereas a sound struct or array has at least one.
func Parts(one api.Type) []int {
	switch one.Kind {
	case api.KStruct:
		return one.Fields
	case api.KArray:
		elems := make([]int, one.Len)
		for i := range elems {
			elems[i] = one.Elem
		}
		return elems
	}
	return nil
}

// Kinds answers the kinds of the cells of type t, in their order.
func Kinds(ts []api.Type, t int) []int {
	return appendKinds(make([]int, 0, api.MaxWidth), ts, t)
}

// Names answers all numbers at pointers that a value of type t has, in their order, those in its boxes and those that are 0 included.
func Names(ts []api.Type, t int, v []api.Cell) []int {
	return appendNames(nil, ts, t, v)
}

func appendKinds(list []int, ts []api.Type, t int) []int {
	parts := Parts(ts[t])
	if len(parts) == 0 {
		return append(list, ts[t].Kind)
	}
	for _, part := range parts {
		list = appendKinds(list, ts, part)
	}
	return list
}

func appendNames(list []int, ts []api.Type, t int, v []api.Cell) []int {
	for i, kind := range Kinds(ts, t) {
		c := v[i]
		switch kind {
		case api.KPtr, api.KMap, api.KIter:
			list = append(list, int(c.N))
		case api.KIface:
			if c.T != 0 {
				list = appendNames(list, ts, c.T-1, c.Box)
			}
		}
	}
	return list
}
