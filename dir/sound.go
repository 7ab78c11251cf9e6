package dir

import (
	"heddle/api"
	"heddle/table"
)

// sound tells whether a directory's tables stand in their slots, and hold what belongs there.
func sound(d api.Dir) bool {
	if d.Depth < 0 || d.Depth > api.MaxDepth || len(d.Slots) != 1<<d.Depth {
		return false
	}
	// Tables are numbered as slots first name them, and the slots of each stand side by side: so each has to begin where the one ahead of it ends.
	first := 0
	for n, tab := range d.Tabs {
		if tab.Depth < 0 || tab.Depth > d.Depth {
			return false
		}
		width := 1 << (d.Depth - tab.Depth)
		if first%width != 0 || !named(d.Slots[first:], n, width) || !soundTab(tab, first/width) {
			return false
		}
		first += width
	}
	return first == len(d.Slots)
}

// named tells whether the first of these slots, so many of them, name a table.
func named(slots []int, n, width int) bool {
	if len(slots) < width {
		return false
	}
	for _, slot := range slots[:width] {
		if slot != n {
			return false
		}
	}
	return true
}

// soundTab tells whether a table is sound, and the hashes of its entries begin with the bits that are asked.
func soundTab(tab api.Tab, bits int) bool {
	entries, e := table.All(tab.Words)
	if e != api.OK {
		return false
	}
	for hash := range entries {
		if leading(hash, tab.Depth) != bits {
			return false
		}
	}
	return true
}
