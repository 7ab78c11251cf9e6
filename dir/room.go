package dir

import (
	"slices"

	"heddle/api"
	"heddle/table"
)

const (
	// hashBits is how many bits a hash has.
	hashBits = 64
	// groupRoom is how many slots of a table may be other than empty for each of its groups.
	groupRoom = 7
)

// leading answers the number that the leading bits of a hash make.
func leading(hash uint64, bits int) int {
	return int(hash >> (hashBits - bits))
}

// tabOf answers the number of a hash's table.
func tabOf(d api.Dir, hash uint64) int {
	return d.Slots[leading(hash, d.Depth)]
}

// groupsOf answers how many groups a sound table has: its first word.
func groupsOf(words []uint64) int {
	return int(words[0])
}

// clone answers a copy that shares no list with the directory.
func clone(d api.Dir) api.Dir {
	d.Tabs, d.Slots = slices.Clone(d.Tabs), slices.Clone(d.Slots)
	for n := range d.Tabs {
		d.Tabs[n].Words = slices.Clone(d.Tabs[n].Words)
	}
	return d
}

// makeRoom makes the table of a hash roomier, and answers false if it can't be.
func makeRoom(d *api.Dir, hash uint64) bool {
	n := tabOf(*d, hash)
	tab := &d.Tabs[n]
	groups := groupsOf(tab.Words)
	entries, _ := table.Len(tab.Words)
	switch {
	case 2*entries <= groupRoom*groups:
		// Half of it or more is deleted, which goes when the entries move.
		tab.Words, _ = table.Grow(tab.Words, groups)
	case groups == 1:
		tab.Words, _ = table.Grow(tab.Words, 2)
	case tab.Depth < api.MaxDepth:
		split(d, n)
	case groups < api.MaxGroups:
		tab.Words, _ = table.Grow(tab.Words, 2*groups)
	default:
		return false
	}
	return true
}

// split puts two tables in the place of one, by the bit of the hash that stands behind those which all its entries have in common.
func split(d *api.Dir, n int) {
	tab := d.Tabs[n]
	zeros, ones := half(tab, 0), half(tab, 1)
	d.Tabs = slices.Replace(d.Tabs, n, n+1, zeros, ones)
	d.Depth = max(d.Depth, zeros.Depth)
	d.Slots = slotsOf(*d)
}

// half answers a table of as many groups, with those entries whose hash has this bit behind the leading ones.
func half(tab api.Tab, bit int) api.Tab {
	depth := tab.Depth + 1
	words, _ := table.New(groupsOf(tab.Words))
	entries, _ := table.All(tab.Words)
	for hash, id := range entries {
		if leading(hash, depth)&1 == bit {
			words, _ = table.Insert(words, hash, id)
		}
	}
	return api.Tab{Depth: depth, Words: words}
}

// slotsOf answers the slots that the tables' depths ask for: all tables come in the order of their slots, so each takes the next ones.
func slotsOf(d api.Dir) []int {
	slots := make([]int, 0, 1<<d.Depth)
	for n, tab := range d.Tabs {
		for range 1 << (d.Depth - tab.Depth) {
			slots = append(slots, n)
		}
	}
	return slots
}
