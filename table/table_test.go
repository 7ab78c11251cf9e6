package table_test

import (
	"math"
	"slices"
	"testing"

	"heddle/api"
	"heddle/table"
)

// The chapter's first example.
func TestSevenInOneGroup(t *testing.T) {
	list := run(0, 1, 7)
	words := inserted(t, 1)
	for n, en := range list {
		words = insert(t, words, en.hash, en.id)
		if words[4+2*n] != en.hash || words[5+2*n] != en.id || words[1] != uint64(n+1) || words[2] != uint64(6-n) {
			t.Fatalf("behind entry %d:\n%x", n, words)
		}
	}
	wantTable(t, words, []uint64{1, 7, 0, 0x8007060504030201, 1, 101, 2, 102, 3, 103, 4, 104, 5, 105, 6, 106, 7, 107, 0, 0})
	more, e := table.Insert(words, 8, 108)
	wantNone(t, more, e, api.ErrFull)
	wantTable(t, remove(t, words, 3, 103), []uint64{1, 6, 1, 0x8007060504800201, 1, 101, 2, 102, 0, 0, 4, 104, 5, 105, 6, 106, 7, 107, 0, 0})
}

// The chapter's second example.
func TestEightInAGroup(t *testing.T) {
	words := inserted(t, 2)
	for n := range uint64(8) {
		words = insert(t, words, hashOf(2*n, 0), n)
	}
	wantTable(t, words, []uint64{2, 8, 6,
		0, 0, 0, 256, 1, 512, 2, 768, 3, 1024, 4, 1280, 5, 1536, 6, 1792, 7,
		0x8080808080808080, 0, 0, 0, 0, 0, 0, 0, 0, 0, 0, 0, 0, 0, 0, 0, 0,
	})
	words = insert(t, words, 2048, 8)
	nine := []uint64{2, 9, 5,
		0, 0, 0, 256, 1, 512, 2, 768, 3, 1024, 4, 1280, 5, 1536, 6, 1792, 7,
		0x8080808080808000, 2048, 8, 0, 0, 0, 0, 0, 0, 0, 0, 0, 0, 0, 0, 0, 0,
	}
	wantTable(t, words, nine)
	words = remove(t, words, 768, 3)
	nine[1], nine[3], nine[10], nine[11] = 8, 0xFE000000, 0, 0
	wantTable(t, words, nine)
	words = insert(t, words, hashOf(0, 9), 77)
	nine[1], nine[3], nine[10], nine[11] = 9, 0x09000000, 9, 77
	wantTable(t, words, nine)
}

// P14.1: each number of groups.
func TestNew(t *testing.T) {
	for _, groups := range sizes {
		words, e := table.New(groups)
		if e != api.OK || len(words) != 3+17*groups {
			t.Fatalf("New(%d): %d words, %d", groups, len(words), e)
		}
		wantTable(t, words, newModel(groups).words())
		wantAll(t, words)
		for _, hash := range []uint64{0, 1, 127, 128, math.MaxUint64} {
			wantFind(t, words, hash)
			less, e := table.Delete(words, hash, 0)
			wantNone(t, less, e, api.ErrNone)
		}
	}
}

// P14.3: the groups come in the order of chapter 13, written out for four of them.
func TestInsertGoesFromGroupToGroup(t *testing.T) {
	for _, o := range []struct {
		h1    uint64
		order []int
	}{
		{0, []int{0, 1, 3, 2}}, {1, []int{1, 2, 0, 3}}, {2, []int{2, 3, 1, 0}}, {3, []int{3, 0, 2, 1}},
		{4, []int{0, 1, 3, 2}}, {1<<57 - 1, []int{3, 0, 2, 1}},
	} {
		words := inserted(t, 4)
		for n := range 28 {
			words = insert(t, words, hashOf(o.h1, 5), uint64(n))
			at := 4 + 17*o.order[n/8] + 2*(n%8)
			if words[at] != hashOf(o.h1, 5) || words[at+1] != uint64(n) {
				t.Fatalf("h1 %d, entry %d:\n%x", o.h1, n, words)
			}
		}
		if words[1] != 28 || words[2] != 0 {
			t.Fatalf("h1 %d: %d entries, %d left", o.h1, words[1], words[2])
		}
		more, e := table.Insert(words, hashOf(o.h1, 5), 99)
		wantNone(t, more, e, api.ErrFull)
	}
}

// P14.3: with no growth left, a deleted slot is taken, and an empty one is not, though a deleted one stands farther on.
func TestInsertWithoutGrowth(t *testing.T) {
	words := inserted(t, 2, append(run(0, 0, 8), run(1, 0, 6)...)...)
	words = remove(t, words, hashOf(0, 2), 102)
	words = remove(t, words, hashOf(0, 5), 105)
	if words[1] != 12 || words[2] != 0 {
		t.Fatalf("%d entries, %d left", words[1], words[2])
	}
	more, e := table.Insert(words, hashOf(1, 9), 9)
	wantNone(t, more, e, api.ErrFull)
	more = insert(t, words, hashOf(0, 9), 9)
	if more[8] != 9 || more[9] != 9 || more[1] != 13 || more[2] != 0 {
		t.Fatalf("the first deleted slot is not taken:\n%x", more)
	}
	more = insert(t, more, hashOf(0, 9), 9)
	if more[14] != 9 || more[15] != 9 || more[1] != 14 || more[2] != 0 {
		t.Fatalf("the second deleted slot is not taken:\n%x", more)
	}
	more, e = table.Insert(more, hashOf(0, 9), 9)
	wantNone(t, more, e, api.ErrFull)
}

// P14.3: an empty slot in the midst of a group is taken, ahead of those behind it.
func TestInsertTakesTheFirstSlot(t *testing.T) {
	words := inserted(t, 1, run(0, 0, 6)...)
	words = remove(t, words, 4, 104)
	words = remove(t, words, 1, 101)
	for _, at := range []int{6, 12, 16} {
		words = insert(t, words, 50, 60)
		if words[at] != 50 || words[at+1] != 60 {
			t.Fatalf("not at %d:\n%x", at, words)
		}
	}
}

// P14.2: just the same hash, in the order of the groups, within them slot by slot.
func TestFind(t *testing.T) {
	h := hashOf(3, 7)
	other := []uint64{hashOf(7, 7), hashOf(3, 8), hashOf(3+1<<32, 7), hashOf(3+1<<56, 7)}
	words := inserted(t, 4)
	for n := range uint64(5) {
		for _, o := range other {
			words = insert(t, words, o, 1000+n)
		}
		words = insert(t, words, h, 20-n)
	}
	wantFind(t, words, h, 20, 19, 18, 17, 16)
	for _, o := range other {
		wantFind(t, words, o, 1000, 1001, 1002, 1003, 1004)
	}
	wantFind(t, words, hashOf(3+1<<20, 7))
	wantFind(t, words, hashOf(2, 7))
	// What is put into a slot ahead comes ahead.
	words = remove(t, words, other[0], 1000)
	words = insert(t, words, h, 5)
	wantFind(t, words, h, 5, 20, 19, 18, 17, 16)
}

// P14.2: a search goes on behind groups that are deleted, and ends behind an empty slot.
func TestFindBehindDeleted(t *testing.T) {
	words := inserted(t, 4, run(0, 0, 20)...)
	for n := range 16 {
		words = remove(t, words, hashOf(0, byte(n)), uint64(100+n))
	}
	if words[3] != 0xFEFEFEFEFEFEFEFE || words[20] != 0xFEFEFEFEFEFEFEFE || words[2] != 8 {
		t.Fatalf("two groups are not deleted:\n%x", words)
	}
	for n := range 20 {
		if n < 16 {
			wantFind(t, words, hashOf(0, byte(n)))
			continue
		}
		wantFind(t, words, hashOf(0, byte(n)), uint64(100+n))
	}
	words = insert(t, words, hashOf(0, 17), 5)
	wantFind(t, words, hashOf(0, 17), 5, 117)
	if words[4] != hashOf(0, 17) || words[2] != 8 {
		t.Fatalf("the first deleted slot is not taken:\n%x", words)
	}
}

// P14.3, P14.4: an entry may stand there twice; the first that Find would come to goes.
func TestTwins(t *testing.T) {
	words := inserted(t, 1, entry{9, 1}, entry{9, 2}, entry{9, 1}, entry{9, 3}, entry{9, 1})
	wantFind(t, words, 9, 1, 2, 1, 3, 1)
	words = remove(t, words, 9, 1)
	wantTable(t, words, []uint64{1, 4, 3, 0x8080800909090980, 0, 0, 9, 2, 9, 1, 9, 3, 9, 1, 0, 0, 0, 0, 0, 0})
	words = remove(t, words, 9, 1)
	wantFind(t, words, 9, 2, 3, 1)
	words = remove(t, words, 9, 1)
	wantFind(t, words, 9, 2, 3)
	less, e := table.Delete(words, 9, 1)
	wantNone(t, less, e, api.ErrNone)
	// The first by the order of groups, not by their numbers.
	words = inserted(t, 2)
	for range 14 {
		words = insert(t, words, hashOf(1, 3), 4)
	}
	words = remove(t, words, hashOf(1, 3), 4)
	if words[20]&0xFF != 0xFE || words[3] != 0x8080030303030303 || words[2] != 0 {
		t.Fatalf("not the first of group 1:\n%x", words)
	}
}

// P14.4: no entry with this hash and this id, though there is one with either.
func TestDeleteNone(t *testing.T) {
	words := inserted(t, 2, entry{hashOf(0, 1), 5}, entry{hashOf(0, 2), 6}, entry{hashOf(2, 1), 7}, entry{0, 8})
	for _, en := range []entry{{hashOf(0, 1), 6}, {hashOf(0, 2), 5}, {hashOf(2, 1), 5}, {hashOf(0, 1), 7}, {0, 0}, {hashOf(1, 1), 5}, {hashOf(0, 1), 1<<32 + 5}, {math.MaxUint64, math.MaxUint64}} {
		less, e := table.Delete(words, en.hash, en.id)
		wantNone(t, less, e, api.ErrNone)
	}
}

// P14.4: empty beside an empty slot, deleted without one; the growth that is left tells them apart.
func TestDeleteInTwoGroups(t *testing.T) {
	words := inserted(t, 2, run(0, 0, 9)...)
	for n, left := range []uint64{5, 5, 5, 5, 5, 5, 5, 5, 6} {
		words = remove(t, words, hashOf(0, byte(n)), uint64(100+n))
		if words[1] != uint64(8-n) || words[2] != left {
			t.Fatalf("behind entry %d: %d entries, %d left", n, words[1], words[2])
		}
	}
	m := newModel(2)
	for i := range m[0] {
		m[0][i].control = deleted
	}
	wantTable(t, words, m.words())
	for _, groups := range []int{1, 2, 4} {
		grown, e := table.Grow(words, groups)
		if e != api.OK {
			t.Fatalf("Grow(%d): %d", groups, e)
		}
		wantTable(t, grown, newModel(groups).words())
	}
}

// P14.3, P14.4: the ends of hashes and ids.
func TestEnds(t *testing.T) {
	list := []entry{{0, 0}, {0, math.MaxUint64}, {math.MaxUint64, 0}, {math.MaxUint64, math.MaxUint64}, {127, 1 << 63}, {1 << 63, 127}, {128, 128}}
	for _, groups := range sizes {
		words := inserted(t, groups, list...)
		wantFind(t, words, 0, 0, math.MaxUint64)
		wantFind(t, words, math.MaxUint64, 0, math.MaxUint64)
		wantFind(t, words, 127, 1<<63)
		wantFind(t, words, 1<<63, 127)
		wantFind(t, words, 128, 128)
		if n, e := table.Len(words); n != len(list) || e != api.OK {
			t.Fatalf("%d groups: Len %d, %d", groups, n, e)
		}
		for _, en := range list {
			words = remove(t, words, en.hash, en.id)
		}
		wantTable(t, words, newModel(groups).words())
	}
}

// P14.5: written out.
func TestGrowAndAll(t *testing.T) {
	words := inserted(t, 1, entry{hashOf(3, 1), 1}, entry{hashOf(2, 2), 2}, entry{hashOf(1, 3), 3}, entry{hashOf(0, 4), 4}, entry{hashOf(3, 5), 5})
	words = remove(t, words, hashOf(2, 2), 2)
	wantAll(t, words, entry{hashOf(3, 1), 1}, entry{hashOf(1, 3), 3}, entry{hashOf(0, 4), 4}, entry{hashOf(3, 5), 5})
	grown, e := table.Grow(words, 2)
	if e != api.OK {
		t.Fatalf("Grow: %d", e)
	}
	wantTable(t, grown, []uint64{2, 4, 10,
		0x8080808080808004, hashOf(0, 4), 4, 0, 0, 0, 0, 0, 0, 0, 0, 0, 0, 0, 0, 0, 0,
		0x8080808080050301, hashOf(3, 1), 1, hashOf(1, 3), 3, hashOf(3, 5), 5, 0, 0, 0, 0, 0, 0, 0, 0, 0, 0,
	})
	wantAll(t, grown, entry{hashOf(0, 4), 4}, entry{hashOf(3, 1), 1}, entry{hashOf(1, 3), 3}, entry{hashOf(3, 5), 5})
	back, e := table.Grow(grown, 1)
	if e != api.OK {
		t.Fatalf("Grow: %d", e)
	}
	wantTable(t, back, []uint64{1, 4, 3, 0x8080808005030104, hashOf(0, 4), 4, hashOf(3, 1), 1, hashOf(1, 3), 3, hashOf(3, 5), 5, 0, 0, 0, 0, 0, 0, 0, 0})
}

// P14.5: as many entries as fit, and one more.
func TestGrowToTheLast(t *testing.T) {
	d := draw(5)
	for _, groups := range sizes[:9] {
		m := newModel(2 * groups)
		for range 7 * groups {
			m.insert(d.next(), d.next())
		}
		want, _ := m.grow(groups)
		grown, e := table.Grow(m.words(), groups)
		if e != api.OK {
			t.Fatalf("Grow(%d): %d", groups, e)
		}
		wantTable(t, grown, want.words())
		if grown[2] != 0 {
			t.Fatalf("Grow(%d): %d left", groups, grown[2])
		}
		m.insert(d.next(), d.next())
		grown, e = table.Grow(m.words(), groups)
		wantNone(t, grown, e, api.ErrFull)
	}
}

// P14.1 to P14.5: the greatest table, full of entries.
func TestMaxGroups(t *testing.T) {
	const groups = 4096
	if groups != api.MaxGroups {
		t.Fatalf("MaxGroups is %d", api.MaxGroups)
	}
	d := draw(11)
	small := newModel(groups)
	var list []entry
	for range 7 * groups {
		list = append(list, entry{d.next(), d.next()})
	}
	// The model counts its slots at each insert, which a table of this size is too great for.
	for _, en := range list {
	search:
		for g := range small.order(en.hash) {
			for i, s := range small[g] {
				if !isFull(s.control) {
					small[g][i] = full(en.hash, en.id)
					break search
				}
			}
		}
	}
	words := small.words()
	wantTable(t, words, words)
	for _, n := range []int{0, 1, 1000, 7*groups - 1} {
		wantFind(t, words, list[n].hash, list[n].id)
	}
	wantAll(t, words, small.all()...)
	more, e := table.Insert(words, 1, 1)
	wantNone(t, more, e, api.ErrFull)
	less, e := table.Grow(words, groups/2)
	wantNone(t, less, e, api.ErrFull)
	same, e := table.Grow(words, groups)
	if e != api.OK || same[1] != 7*groups || same[2] != 0 || table.Check(same) != api.OK {
		t.Fatalf("Grow to the same: %d, %d", e, table.Check(same))
	}
	got := pairs(entriesOf(t, same))
	byHash := func(a, b entry) int {
		if a.hash < b.hash {
			return -1
		}
		return 1
	}
	slices.SortFunc(got, byHash)
	slices.SortFunc(list, byHash)
	if !slices.Equal(got, list) {
		t.Fatal("Grow to the same has other entries")
	}
	small.remove(list[77].hash, list[77].id)
	wantTable(t, remove(t, words, list[77].hash, list[77].id), small.words())
}

// P14.3: the slots of all groups of one order, up to the last group of a greater table.
func TestLongSearches(t *testing.T) {
	for _, groups := range []int{8, 16, 32} {
		for _, h1 := range []uint64{0, uint64(groups - 1), math.MaxUint64 >> 7} {
			m, words := newModel(groups), inserted(t, groups)
			for n := range 7*groups + 1 {
				hash := hashOf(h1, byte(n%3))
				want := m.insert(hash, uint64(n))
				more, e := table.Insert(words, hash, uint64(n))
				if e != want {
					t.Fatalf("%d groups, entry %d: %d, want %d", groups, n, e, want)
				}
				if e == api.OK {
					words = more
				}
			}
			wantTable(t, words, m.words())
			for h2 := range byte(4) {
				wantFind(t, words, hashOf(h1, h2), m.find(hashOf(h1, h2))...)
			}
			wantAll(t, words, m.all()...)
		}
	}
}
