package dir_test

import (
	"slices"
	"testing"

	"heddle/api"
	"heddle/dir"
	"heddle/table"
)

// blank answers the words of a table without entries.
func blank(groups int) []uint64 {
	words, _ := table.New(groups)
	return words
}

// filled answers the words of a table into which the entries were put.
func filled(t *testing.T, groups int, list ...entry) []uint64 {
	t.Helper()
	words := blank(groups)
	for _, en := range list {
		more, e := table.Insert(words, en.hash, en.id)
		if e != api.OK {
			t.Fatalf("a table's Insert: %d", e)
		}
		words = more
	}
	return words
}

// top answers a hash with these leading six bits, this h1 and this h2.
func top(lead, h1, h2 uint64) uint64 { return lead<<58 | h1<<7 | h2 }

// run answers so many entries with the leading bits and the h1 of all, and rising h2 and ids.
func run(lead, h1 uint64, from, count int) (list []entry) {
	for n := from; n < from+count; n++ {
		list = append(list, entry{top(lead, h1, uint64(n)), uint64(100 + n)})
	}
	return list
}

// deep answers the directory whose hashes 0 .. were split down to Depth 6; the lowest table has these words, the others these.
func deep(words, others []uint64) api.Dir {
	d := api.Dir{Depth: 6, Tabs: []api.Tab{{Depth: 6, Words: words}}, Slots: []int{0}}
	for depth := 6; depth > 0; depth-- {
		for range 1 << (6 - depth) {
			d.Slots = append(d.Slots, len(d.Tabs))
		}
		d.Tabs = append(d.Tabs, api.Tab{Depth: depth, Words: slices.Clone(others)})
	}
	return d
}

// P15.1: a directory without entries.
func TestNew(t *testing.T) {
	wantDir(t, dir.New(), api.Dir{Tabs: []api.Tab{{Words: blank(1)}}, Slots: []int{0}})
	wantAll(t, dir.New())
	wantFind(t, dir.New(), 0)
	wantFind(t, dir.New(), 1<<64-1)
}

// The chapter's example.
func TestFifteen(t *testing.T) {
	var list []entry
	for i := range uint64(15) {
		list = append(list, entry{i << 50, i})
	}
	d, _ := inserted(t, list[:14]...)
	wantDir(t, d, api.Dir{Tabs: []api.Tab{{Words: filled(t, 2, list[:14]...)}}, Slots: []int{0}})
	d = insert(t, d, list[14].hash, 14)
	// What is in the tables of two groups comes group by group, and is moved to four in this order.
	wantDir(t, d, deep(filled(t, 4, list...), blank(2)))
	if len(d.Tabs) != 7 {
		t.Fatalf("%d tables", len(d.Tabs))
	}
	wantAll(t, d, list...)
	for _, en := range list {
		wantFind(t, d, en.hash, en.id)
	}
}

// P15.1: Find looks into the hash's table, All goes from table to table, Len counts all of them.
func TestFindAndAll(t *testing.T) {
	var list []entry
	for n := range uint64(40) {
		list = append(list, entry{n % 4 << 62, n})
	}
	d, m := inserted(t, list...)
	for lead := range uint64(4) {
		want := []uint64{lead, lead + 4, lead + 8, lead + 12, lead + 16, lead + 20, lead + 24, lead + 28, lead + 32, lead + 36}
		wantFind(t, d, lead<<62, want...)
		wantFind(t, d, lead<<62|1)
		wantFind(t, d, lead<<62|1<<61)
	}
	wantAll(t, d, m.all()...)
	if n, e := dir.Len(d); n != 40 || e != api.OK {
		t.Fatalf("Len: %d, %d", n, e)
	}
	seq, _ := dir.All(d)
	last := uint64(0)
	for hash := range seq {
		if hash < last {
			t.Fatalf("%x comes behind %x", hash, last)
		}
		last = hash
	}
}

// P15.1: hashes at the ends, in directories of each depth.
func TestEachDepth(t *testing.T) {
	for depth := range 7 {
		var list []entry
		for n := range uint64(15) {
			// So many leading bits are 1, and the next one is now this, now that.
			list = append(list, entry{^uint64(0)<<(64-depth) | n%2<<(63-depth), n})
		}
		d, m := inserted(t, append(list, entry{0, 77}, entry{1<<64 - 1, 78})...)
		if depth < 6 && d.Depth != depth+1 {
			t.Fatalf("Depth %d, want %d", d.Depth, depth+1)
		}
		wantDir(t, d, m.dir())
		wantAll(t, d, m.all()...)
		wantFind(t, d, 1<<64-1, 78)
		if depth > 0 {
			wantFind(t, d, 0, 77)
		}
	}
}

// P15.2: one group, then two, then a split.
func TestFirstSteps(t *testing.T) {
	var list []entry
	for n := range uint64(15) {
		list = append(list, entry{n << 60, n})
	}
	d := dir.New()
	for n, en := range list {
		d = insert(t, d, en.hash, en.id)
		switch {
		case n < 7:
			wantDir(t, d, api.Dir{Tabs: []api.Tab{{Words: filled(t, 1, list[:n+1]...)}}, Slots: []int{0}})
		case n < 14:
			wantDir(t, d, api.Dir{Tabs: []api.Tab{{Words: filled(t, 2, list[:n+1]...)}}, Slots: []int{0}})
		}
	}
	wantDir(t, d, api.Dir{Depth: 1, Slots: []int{0, 1}, Tabs: []api.Tab{
		{Depth: 1, Words: filled(t, 2, list[:8]...)}, {Depth: 1, Words: filled(t, 2, list[8:]...)},
	}})
}

// P15.2: a table of which half or more is deleted is cleared; with one entry more it is split, or grows.
func TestDeletedIsCleared(t *testing.T) {
	first, second := run(0, 0, 0, 8), run(0, 1, 8, 6)
	all := append(slices.Clone(first), second...)
	more := entry{top(0, 1, 50), 50}
	for _, gone := range []int{1, 6, 7, 8} {
		d := api.Dir{Tabs: []api.Tab{{Words: filled(t, 2, all...)}}, Slots: []int{0}}
		for _, en := range first[:gone] {
			d = remove(t, d, en.hash, en.id)
		}
		rest := append(slices.Clone(all[gone:]), more)
		got := insert(t, d, more.hash, more.id)
		if gone >= 7 {
			wantDir(t, got, api.Dir{Tabs: []api.Tab{{Words: filled(t, 2, rest...)}}, Slots: []int{0}})
			continue
		}
		// All have the leading bits 0: the first split has moved all of them, and cleared what was deleted.
		want := api.Dir{Depth: 1, Slots: []int{0, 1}, Tabs: []api.Tab{{Depth: 1, Words: filled(t, 2, rest...)}, {Depth: 1, Words: blank(2)}}}
		wantDir(t, got, want)
	}
	for _, gone := range []int{1, 6, 7, 8} {
		d := deep(filled(t, 2, all...), blank(1))
		for _, en := range first[:gone] {
			d = remove(t, d, en.hash, en.id)
		}
		rest := append(slices.Clone(all[gone:]), more)
		groups := 2
		if gone < 7 {
			groups = 4
		}
		wantDir(t, insert(t, d, more.hash, more.id), deep(filled(t, groups, rest...), blank(1)))
	}
}

// P15.2: an entry that takes a deleted slot needs no room.
func TestDeletedSlotIsTaken(t *testing.T) {
	all := append(run(0, 0, 0, 8), run(0, 1, 8, 6)...)
	d := api.Dir{Tabs: []api.Tab{{Words: filled(t, 2, all...)}}, Slots: []int{0}}
	d = remove(t, d, all[2].hash, all[2].id)
	all[2] = entry{top(0, 0, 50), 50}
	wantDir(t, insert(t, d, all[2].hash, all[2].id), api.Dir{Tabs: []api.Tab{{Words: filled(t, 2, all...)}}, Slots: []int{0}})
}

// P15.2: a split of a table that is not among the deepest leaves the directory's Depth, and moves the numbers of those behind.
func TestSplitInTheMidst(t *testing.T) {
	mixed := func(lead uint64) (list []entry) {
		return append(run(lead, 0, 0, 7), run(lead+8, 0, 7, 7)...)
	}
	d := api.Dir{Depth: 3, Slots: []int{0, 1, 2, 2, 3, 3, 4, 4}, Tabs: []api.Tab{
		{Depth: 3, Words: blank(1)}, {Depth: 3, Words: blank(1)}, {Depth: 2, Words: filled(t, 2, mixed(16)...)},
		{Depth: 2, Words: blank(1)}, {Depth: 2, Words: filled(t, 2, mixed(48)...)},
	}}
	got := insert(t, d, top(16, 0, 50), 50)
	wantDir(t, got, api.Dir{Depth: 3, Slots: []int{0, 1, 2, 3, 4, 4, 5, 5}, Tabs: []api.Tab{
		d.Tabs[0], d.Tabs[1],
		{Depth: 3, Words: filled(t, 2, append(run(16, 0, 0, 7), entry{top(16, 0, 50), 50})...)}, {Depth: 3, Words: filled(t, 2, run(24, 0, 7, 7)...)},
		d.Tabs[3], d.Tabs[4],
	}})
	got = insert(t, got, top(56, 0, 50), 50)
	wantDir(t, got, api.Dir{Depth: 3, Slots: []int{0, 1, 2, 3, 4, 4, 5, 6}, Tabs: []api.Tab{
		got.Tabs[0], got.Tabs[1], got.Tabs[2], got.Tabs[3], got.Tabs[4],
		{Depth: 3, Words: filled(t, 2, run(48, 0, 0, 7)...)}, {Depth: 3, Words: filled(t, 2, append(run(56, 0, 7, 7), entry{top(56, 0, 50), 50})...)},
	}})
}

// P15.2: a split is by the bit behind the leading ones of the table, not of the directory; and each slot stands twice if the table is among the deepest.
func TestSplitOfTheDeepest(t *testing.T) {
	list := append(run(4, 0, 0, 7), run(0, 0, 7, 7)...)
	d := api.Dir{Depth: 3, Slots: []int{0, 1, 2, 2, 3, 3, 3, 3}, Tabs: []api.Tab{
		{Depth: 3, Words: filled(t, 2, list...)}, {Depth: 3, Words: blank(1)}, {Depth: 2, Words: blank(4)}, {Depth: 1, Words: blank(8)},
	}}
	got := insert(t, d, top(0, 0, 50), 50)
	wantDir(t, got, api.Dir{Depth: 4, Slots: []int{0, 1, 2, 2, 3, 3, 3, 3, 4, 4, 4, 4, 4, 4, 4, 4}, Tabs: []api.Tab{
		{Depth: 4, Words: filled(t, 2, append(list[7:14:14], entry{top(0, 0, 50), 50})...)}, {Depth: 4, Words: filled(t, 2, list[:7]...)},
		d.Tabs[1], d.Tabs[2], d.Tabs[3],
	}})
}

// P15.2: what a split moves keeps its number of groups, and is put in by the order of All, which is not the order in which it came.
func TestSplitOrder(t *testing.T) {
	d := draw(5)
	for _, groups := range []int{2, 4, 8, 16, 64} {
		var list []entry
		for n := range 7 * groups {
			// Few of the groups are the first ones of many hashes.
			list = append(list, entry{d.next()&^(0x7F<<7) | uint64(d.below(3))<<7, uint64(n)})
		}
		words := filled(t, groups, list...)
		m := &node{words: words}
		e := entry{d.next(), 999}
		got := insert(t, api.Dir{Tabs: []api.Tab{{Words: words}}, Slots: []int{0}}, e.hash, e.id)
		m.insert(e.hash, e.id)
		wantDir(t, got, m.dir())
		if got.Depth != 1 || got.Tabs[0].Words[0] != uint64(groups) || got.Tabs[1].Words[0] != uint64(groups) {
			t.Fatalf("of %d groups: Depth %d", groups, got.Depth)
		}
	}
}

// packed answers the words of a table of so many groups with seven entries in each.
func packed(groups int, lead uint64) []uint64 {
	words := []uint64{uint64(groups), uint64(7 * groups), 0}
	for g := range groups {
		words = append(words, 0x8006050403020100)
		for i := range uint64(7) {
			words = append(words, top(lead, uint64(g), i), i)
		}
		words = append(words, 0, 0)
	}
	return words
}

// P15.2: below MaxDepth a table is split, there it grows, up to MaxGroups, and then it is full.
func TestGreatest(t *testing.T) {
	for groups := 2; groups < api.MaxGroups; groups *= 2 {
		d := deep(packed(groups, 0), blank(1))
		grown, _ := table.Grow(packed(groups, 0), 2*groups)
		grown, _ = table.Insert(grown, top(0, 5, 5), 5)
		wantDir(t, insert(t, d, top(0, 5, 5), 5), deep(grown, blank(1)))
	}
	d := deep(packed(api.MaxGroups, 0), blank(1))
	wantDir(t, d, copied(d))
	for _, hash := range []uint64{0, top(0, 5, 5), 1<<58 - 1} {
		more, e := dir.Insert(d, hash, 5)
		wantNone(t, more, e, api.ErrFull)
	}
	// The other tables have room still.
	for _, lead := range []uint64{1, 2, 3, 4, 63} {
		insert(t, d, top(lead, 5, 5), 5)
	}
	// And so has this one, as soon as an entry is gone.
	d = remove(t, d, top(0, 77, 3), 3)
	d = insert(t, d, top(0, 5, 5), 5)
	wantFind(t, d, top(0, 5, 5), 5, 5)
	more, e := dir.Insert(d, top(0, 5, 5), 5)
	wantNone(t, more, e, api.ErrFull)
}

// P15.2: entries that stand in one table whatever the bits: equal hashes.
func TestEqualHashes(t *testing.T) {
	d := dir.New()
	m := newModel()
	var ids []uint64
	for id := range uint64(200) {
		d = insert(t, d, 1<<63, id)
		m.insert(1<<63, id)
		ids = append(ids, id)
	}
	wantDir(t, d, m.dir())
	if d.Depth != 6 || len(d.Tabs) != 7 || d.Tabs[1].Words[0] != 32 {
		t.Fatalf("Depth %d, %d tables", d.Depth, len(d.Tabs))
	}
	seq, _ := dir.Find(d, 1<<63)
	got := slices.Collect(seq)
	slices.Sort(got)
	if !slices.Equal(got, ids) {
		t.Fatalf("Find: %d", got)
	}
}

// P15.3: what is not there, and what is; a directory stays as large as it is.
func TestDelete(t *testing.T) {
	var list []entry
	for n := range uint64(60) {
		list = append(list, entry{n % 30 << 59, n / 30})
	}
	d, m := inserted(t, list...)
	depth, tabs := d.Depth, len(d.Tabs)
	for _, en := range []entry{{0, 2}, {1 << 59, 2}, {31 << 59, 0}, {1, 0}, {1<<64 - 1, 1}} {
		less, e := dir.Delete(d, en.hash, en.id)
		wantNone(t, less, e, api.ErrNone)
	}
	for n, en := range list {
		wantFind(t, d, en.hash, []uint64{0, 1}[n/30:]...)
		d = remove(t, d, en.hash, en.id)
		m.remove(en.hash, en.id)
		wantDir(t, d, m.dir())
		less, e := dir.Delete(d, en.hash, en.id)
		wantNone(t, less, e, api.ErrNone)
	}
	if d.Depth != depth || len(d.Tabs) != tabs {
		t.Fatalf("Depth %d, %d tables, want %d, %d", d.Depth, len(d.Tabs), depth, tabs)
	}
	wantAll(t, d)
}

// P15.3: of several, the first goes, and only it.
func TestDeleteFirst(t *testing.T) {
	d, _ := inserted(t, entry{9, 1}, entry{9, 2}, entry{9, 1})
	d = remove(t, d, 9, 1)
	wantAll(t, d, entry{9, 2}, entry{9, 1})
	d = remove(t, d, 9, 1)
	wantAll(t, d, entry{9, 2})
}
