package table_test

import (
	"iter"
	"slices"
	"testing"

	"heddle/api"
	"heddle/table"
)

// sizes are all numbers of groups that the chapter allows.
var sizes = []int{1, 2, 4, 8, 16, 32, 64, 128, 256, 512, 1024, 2048, 4096}

// The control bytes of slots that are not full.
const (
	empty   = 128
	deleted = 254
)

// entry is what All gives.
type entry struct{ hash, id uint64 }

// slot is a slot as the chapter tells of it.
type slot struct {
	control byte
	entry
}

// model is a table that is gone through slot by slot, by the chapter's words.
type model [][8]slot

func newModel(groups int) model {
	m := make(model, groups)
	for g := range m {
		for i := range m[g] {
			m[g][i].control = empty
		}
	}
	return m
}

// full answers an entry's slot.
func full(hash, id uint64) slot {
	return slot{byte(hash % 128), entry{hash, id}}
}

// count answers how many slots are as asked.
func (m model) count(is func(byte) bool) (n int) {
	for g := range m {
		n += m.countIn(g, is)
	}
	return n
}

func (m model) countIn(g int, is func(byte) bool) (n int) {
	for _, s := range m[g] {
		if is(s.control) {
			n++
		}
	}
	return n
}

func isEmpty(b byte) bool   { return b == empty }
func isDeleted(b byte) bool { return b == deleted }
func isFull(b byte) bool    { return b < 128 }
func isUsed(b byte) bool    { return b < 128 || b == deleted }

// growth answers how much the table may still grow.
func (m model) growth() int { return 7*len(m) - m.count(isUsed) }

// words answers the table, with counts that are right.
func (m model) words() []uint64 {
	t := []uint64{uint64(len(m)), uint64(m.count(isFull)), uint64(m.growth())}
	for _, slots := range m {
		c := uint64(0)
		for i := 7; i >= 0; i-- {
			c = c*256 + uint64(slots[i].control)
		}
		t = append(t, c)
		for _, s := range slots {
			t = append(t, s.hash, s.id)
		}
	}
	return t
}

// order answers the groups in the order of chapter 13.
func (m model) order(hash uint64) iter.Seq[int] {
	return func(yield func(int) bool) {
		place := int(hash / 128 % uint64(len(m)))
		for i := range m {
			place = (place + i) % len(m)
			if !yield(place) {
				return
			}
		}
	}
}

// search answers the groups and the slots of the entries with a hash.
func (m model) search(hash uint64) (found [][2]int) {
	for g := range m.order(hash) {
		for i, s := range m[g] {
			if isFull(s.control) && s.hash == hash {
				found = append(found, [2]int{g, i})
			}
		}
		if m.countIn(g, isEmpty) > 0 {
			break
		}
	}
	return found
}

func (m model) find(hash uint64) (ids []uint64) {
	for _, p := range m.search(hash) {
		ids = append(ids, m[p[0]][p[1]].id)
	}
	return ids
}

func (m model) insert(hash, id uint64) api.Errno {
	for g := range m.order(hash) {
		for i, s := range m[g] {
			if isFull(s.control) {
				continue
			}
			if isEmpty(s.control) && m.growth() == 0 {
				return api.ErrFull
			}
			m[g][i] = full(hash, id)
			return api.OK
		}
	}
	return api.ErrFull
}

func (m model) remove(hash, id uint64) api.Errno {
	for _, p := range m.search(hash) {
		g, i := p[0], p[1]
		if m[g][i].id != id {
			continue
		}
		if m.countIn(g, isEmpty) > 0 {
			m[g][i] = slot{control: empty}
		} else {
			m[g][i] = slot{control: deleted}
		}
		return api.OK
	}
	return api.ErrNone
}

func (m model) all() (list []entry) {
	for g := range m {
		for _, s := range m[g] {
			if isFull(s.control) {
				list = append(list, s.entry)
			}
		}
	}
	return list
}

func (m model) grow(groups int) (model, api.Errno) {
	if !slices.Contains(sizes, groups) {
		return nil, api.ErrArg
	}
	if m.count(isFull) > 7*groups {
		return nil, api.ErrFull
	}
	grown := newModel(groups)
	for _, en := range m.all() {
		grown.insert(en.hash, en.id)
	}
	return grown, api.OK
}

// sound holds a list of words against the chapter's words, one condition behind the other.
func sound(t []uint64) bool {
	if len(t) < 3 || t[0] > 4096 || !slices.Contains(sizes, int(t[0])) || len(t) != 3+17*int(t[0]) {
		return false
	}
	m := newModel(int(t[0]))
	for g := range m {
		words := t[3+17*g:][:17]
		for i := range m[g] {
			m[g][i] = slot{byte(words[0] >> (8 * i)), entry{words[1+2*i], words[2+2*i]}}
		}
	}
	if int(t[1]) != m.count(isFull) || t[1] > 1<<16 || m.growth() < 0 || t[2] != uint64(m.growth()) {
		return false
	}
	for g := range m {
		if m.countIn(g, isEmpty) > 0 && m.countIn(g, isDeleted) > 0 {
			return false
		}
		for _, s := range m[g] {
			if !m.soundSlot(g, s) {
				return false
			}
		}
	}
	return true
}

func (m model) soundSlot(own int, s slot) bool {
	if !isFull(s.control) {
		return (s.control == empty || s.control == deleted) && s.hash == 0 && s.id == 0
	}
	for g := range m.order(s.hash) {
		if g == own {
			break
		}
		if m.countIn(g, isEmpty) > 0 {
			return false
		}
	}
	return uint64(s.control) == s.hash&0x7F
}

// hashOf answers a hash with this h1 and this h2.
func hashOf(h1 uint64, h2 byte) uint64 { return h1*128 + uint64(h2) }

// inserted answers a table of so many groups into which the entries were put.
func inserted(t *testing.T, groups int, list ...entry) []uint64 {
	t.Helper()
	words, e := table.New(groups)
	if e != api.OK {
		t.Fatalf("New(%d): %d", groups, e)
	}
	for _, en := range list {
		words = insert(t, words, en.hash, en.id)
	}
	return words
}

func insert(t *testing.T, words []uint64, hash, id uint64) []uint64 {
	t.Helper()
	more, e := table.Insert(words, hash, id)
	if e != api.OK {
		t.Fatalf("Insert(%#x, %d): %d", hash, id, e)
	}
	return more
}

func remove(t *testing.T, words []uint64, hash, id uint64) []uint64 {
	t.Helper()
	less, e := table.Delete(words, hash, id)
	if e != api.OK {
		t.Fatalf("Delete(%#x, %d): %d", hash, id, e)
	}
	return less
}

// run answers so many entries with the h1 of all and rising h2 and ids.
func run(h1 uint64, from, count int) (list []entry) {
	for n := from; n < from+count; n++ {
		list = append(list, entry{hashOf(h1, byte(n)), uint64(100 + n)})
	}
	return list
}

func wantFind(t *testing.T, words []uint64, hash uint64, want ...uint64) {
	t.Helper()
	seq, e := table.Find(words, hash)
	if seq == nil || e != api.OK {
		t.Fatalf("Find(%#x): nil %t, %d", hash, seq == nil, e)
	}
	if got := slices.Collect(seq); !slices.Equal(got, want) {
		t.Fatalf("Find(%#x): %d, want %d", hash, got, want)
	}
}

// pairs answers what an iterator gives.
func pairs(seq iter.Seq2[uint64, uint64]) (list []entry) {
	for hash, id := range seq {
		list = append(list, entry{hash, id})
	}
	return list
}

func wantAll(t *testing.T, words []uint64, want ...entry) {
	t.Helper()
	seq, e := table.All(words)
	if seq == nil || e != api.OK {
		t.Fatalf("All: nil %t, %d", seq == nil, e)
	}
	if got := pairs(seq); !slices.Equal(got, want) {
		t.Fatalf("All: %d, want %d", got, want)
	}
}

// wantTable looks for these words, and for a sound table with right counts.
func wantTable(t *testing.T, got, want []uint64) {
	t.Helper()
	if !slices.Equal(got, want) {
		t.Fatalf("the table is\n%x, want\n%x", got, want)
	}
	if e := table.Check(got); e != api.OK {
		t.Fatalf("Check: %d of\n%x", e, got)
	}
	if n, e := table.Len(got); n != int(want[1]) || e != api.OK {
		t.Fatalf("Len: %d, %d, want %d", n, e, want[1])
	}
}

// wantNone looks for an error with no table beside it.
func wantNone(t *testing.T, words []uint64, e, want api.Errno) {
	t.Helper()
	if len(words) > 0 || e != want {
		t.Fatalf("%d words, %d, want none and %d", len(words), e, want)
	}
}

// draw gives numbers that look like chance, but are the same in each run.
type draw uint64

func (d *draw) next() uint64 {
	*d = *d*6364136223846793005 + 1442695040888963407
	x := uint64(*d)
	x = (x ^ x>>32) * 0x9E3779B97F4A7C15
	return x ^ x>>29
}

// below answers a number from 0 to n - 1.
func (d *draw) below(n int) int { return int(d.next() >> 1 % uint64(n)) }
