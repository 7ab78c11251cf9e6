package layout

import (
	"iter"

	"heddle/api"
	"heddle/types"
)

// pointers answers an iterator over the numbers of those words of type t that are pointers.
func pointers(ts []api.Type, t int) iter.Seq[int] {
	ptrs, _ := types.Pointers(ts, t)
	return func(yield func(int) bool) {
		for i, pointer := range ptrs {
			if pointer && !yield(i) {
				return
			}
		}
	}
}
