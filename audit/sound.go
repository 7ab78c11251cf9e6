package audit

import (
	"sort"

	"heddle/api"
)

// highest is the highest number in a sound view, so far below the ends of int that what is reckoned with such numbers does not wrap round.
const highest = 1 << 31

// word is what every address is a multiple of.
const word = 8

// sound tells whether a view is so, by the words of the chapter.
func sound(v api.View) bool {
	return soundPhase(v) && soundObjects(v.Objects) && soundFree(v.Free) && soundNames(v) && soundPages(v)
}

func soundPhase(v api.View) bool {
	return v.Phase >= api.Idle && v.Phase <= api.Sweep && within(0, v.Cycles)
}

// soundObjects tells whether objects stand by rising address, none over another, with a size and a tag each.
func soundObjects(objects []api.Object) bool {
	least := api.PageSize
	for _, o := range objects {
		if !within(least, o.Addr) || o.Addr%word != 0 || !within(1, o.Size) || !within(0, o.Tag) {
			return false
		}
		least = o.Addr + o.Size
	}
	return true
}

// soundFree tells whether free runs stand by rising Start, no two side by side.
func soundFree(free []api.Run) bool {
	least := 0
	for _, r := range free {
		if r.Used || !within(least, r.Start) || !within(1, r.Len) {
			return false
		}
		least = r.Start + r.Len + 1
	}
	return true
}

// soundNames tells whether the roots and all that objects name are objects, which must stand by rising address. None of these numbers is above the highest then, since no address is.
func soundNames(v api.View) bool {
	for _, o := range v.Objects {
		if !areObjects(v.Objects, o.Refs) {
			return false
		}
	}
	return areObjects(v.Objects, v.Roots)
}

func areObjects(objects []api.Object, addrs []int) bool {
	for _, addr := range addrs {
		if _, ok := place(objects, addr); !ok {
			return false
		}
	}
	return true
}

// soundPages tells whether no byte of an object lies in a page of a free run.
func soundPages(v api.View) bool {
	for _, r := range v.Free {
		if anyWithin(v.Objects, address(r.Start), address(r.Start+r.Len)) {
			return false
		}
	}
	return true
}

// anyWithin tells whether a byte of an object lies from from on and ahead of to.
func anyWithin(objects []api.Object, from, to int) bool {
	// The objects end in the order in which they begin: if the first that ends behind from does not begin ahead of to, no other does.
	first := sort.Search(len(objects), func(i int) bool { return objects[i].Addr+objects[i].Size > from })
	return first < len(objects) && objects[first].Addr < to
}

// address answers where a page begins.
func address(page int) int {
	return (page + 1) * api.PageSize
}

// within tells whether n is from low on and not above the highest.
func within(low, n int) bool {
	return n >= low && n <= highest
}
