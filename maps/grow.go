package maps

import (
	"math/bits"
	"slices"

	"heddle/api"
	"heddle/dir"
	"heddle/table"
)

const (
	// groupRoom is how many entries a group of a table has room for.
	groupRoom = 7
	// waste is how many times the room that its entries ask for a directory may have, before it is made anew. One that was made just now has less, however their hashes meet: at most seven and a half times (fifteen entries with six leading bits in common are put into sixteen groups).
	waste = 8
)

// directory is a directory of chapter 15, and where the chains of its tables begin, by their numbers: 0 of those that lie nowhere yet.
type directory struct {
	api.Dir
	chains []int
}

// enter puts an entry into a map's directory: into its table, if that has room, else into a directory that is roomier.
func (h *holder) enter(addr int, at spot, entry int) api.Errno {
	if words, e := table.Insert(at.words, at.hash, uint64(entry)); e == api.OK {
		h.rewrite(at.chain, words)
		return api.OK
	}
	old := h.directory(h.named(addr, mapDir))
	if wasteful(old.Dir) {
		old = anew(old.Dir)
	}
	d, e := dir.Insert(old.Dir, at.hash, uint64(entry))
	if e != api.OK {
		return e
	}
	made, e := h.store(d, old)
	if e != api.OK {
		return e
	}
	return h.memory.Set(addr, mapDir, uint64(made))
}

// directory reads the whole directory that lies at addr. A map begins without one.
func (s scope) directory(addr int) directory {
	if addr == 0 {
		return fresh(dir.New())
	}
	var d directory
	slots := s.read(addr, tagDir)
	d.Depth = bits.Len(uint(len(slots))) - 1
	for slot, word := range slots {
		if slot == 0 || word != slots[slot-1] {
			chain := address(word)
			d.chains = append(d.chains, chain)
			d.Tabs = append(d.Tabs, api.Tab{Words: s.chained(chain)})
		}
		d.Slots = append(d.Slots, len(d.Tabs)-1)
	}
	for n := range d.Tabs {
		d.Tabs[n].Depth = d.Depth - bits.Len(uint(d.width(n))) + 1
	}
	return d
}

// width answers how many slots name a table.
func (d directory) width(n int) int {
	width := 0
	for _, own := range d.Slots {
		if own == n {
			width++
		}
	}
	return width
}

// fresh answers a directory whose tables lie nowhere yet.
func fresh(d api.Dir) directory {
	return directory{d, make([]int, len(d.Tabs))}
}

// wasteful tells whether a directory has far more room than its entries ask for, and one more: it never shrinks when they go.
func wasteful(d api.Dir) bool {
	entries, e := dir.Len(d)
	if e != api.OK {
		return false
	}
	room := 0
	for _, tab := range d.Tabs {
		// The first word of a table is its number of groups.
		room += groupRoom * int(tab.Words[0])
	}
	return room > waste*(entries+1)
}

// anew answers a directory with the same entries into which nothing else was ever put.
func anew(old api.Dir) directory {
	d := dir.New()
	entries, _ := dir.All(old)
	for hash, id := range entries {
		d, _ = dir.Insert(d, hash, id)
	}
	return fresh(d)
}

// store makes objects for a directory, and answers its address. Tables that the old one has too stay where they are.
func (h *holder) store(d api.Dir, old directory) (int, api.Errno) {
	words := make([]uint64, len(d.Slots))
	ptrs := make([]bool, len(d.Slots))
	for slot, n := range d.Slots {
		ptrs[slot] = true
		if slot > 0 && n == d.Slots[slot-1] {
			words[slot] = words[slot-1]
			continue
		}
		chain, e := old.same(d.Tabs[n], slot>>(d.Depth-old.Depth)), api.OK
		if chain == 0 {
			chain, e = h.chain(d.Tabs[n].Words)
		}
		if e != api.OK {
			return 0, e
		}
		words[slot] = uint64(chain)
	}
	return h.object(ptrs, tagDir, words)
}

// same answers the chain of the table that a slot names, if it is this one; else 0.
func (d directory) same(tab api.Tab, slot int) int {
	n := d.Slots[slot]
	if d.Tabs[n].Depth != tab.Depth || !slices.Equal(d.Tabs[n].Words, tab.Words) {
		return 0
	}
	return d.chains[n]
}

// chain makes a chain that holds the words, from its end on, and answers where it begins.
func (h *holder) chain(words []uint64) (int, api.Errno) {
	next := 0
	parts := slices.Collect(slices.Chunk(words, pieceRoom))
	for _, part := range slices.Backward(parts) {
		addr, e := h.object(pointersAt(pieceHead+len(part), pieceNext), tagPiece, slices.Concat([]uint64{uint64(next)}, part))
		if e != api.OK {
			return 0, e
		}
		next = addr
	}
	return next, api.OK
}
