package table_test

import (
	"math"
	"slices"
	"testing"

	"heddle/api"
	"heddle/table"
)

// wantForm looks for ErrForm of all calls, with nothing beside it, whatever the other arguments are.
func wantForm(t *testing.T, what string, words []uint64) {
	t.Helper()
	if sound(words) {
		t.Fatalf("%s: the table is sound:\n%x", what, words)
	}
	if e := table.Check(words); e != api.ErrForm {
		t.Fatalf("%s: Check: %d of\n%x", what, e, words)
	}
	if n, e := table.Len(words); n != 0 || e != api.ErrForm {
		t.Fatalf("%s: Len: %d, %d", what, n, e)
	}
	for _, hash := range []uint64{0, 1, 128, math.MaxUint64} {
		seq, e := table.Find(words, hash)
		if seq == nil || e != api.ErrForm || len(slices.Collect(seq)) > 0 {
			t.Fatalf("%s: Find: nil %t, %d", what, seq == nil, e)
		}
		more, e := table.Insert(words, hash, 5)
		wantNone(t, more, e, api.ErrForm)
		less, e := table.Delete(words, hash, 5)
		wantNone(t, less, e, api.ErrForm)
	}
	for _, groups := range []int{math.MinInt, -1, 0, 1, 2, 3, api.MaxGroups, math.MaxInt} {
		grown, e := table.Grow(words, groups)
		wantNone(t, grown, e, api.ErrForm)
	}
	seq, e := table.All(words)
	if seq == nil || e != api.ErrForm || len(pairs(seq)) > 0 {
		t.Fatalf("%s: All: nil %t, %d", what, seq == nil, e)
	}
}

// with answers a copy with one other word.
func with(words []uint64, at int, word uint64) []uint64 {
	copied := slices.Clone(words)
	copied[at] = word
	return copied
}

// The length is that which the number of groups asks for, and that number is one of those that are allowed.
func TestShape(t *testing.T) {
	wantForm(t, "nil", nil)
	wantForm(t, "no words", []uint64{})
	for _, groups := range []int{1, 2, 4, 64} {
		words := inserted(t, groups, entry{5, 5})
		for n := range len(words) {
			if n < 60 || n > len(words)-20 {
				wantForm(t, "cut", words[:n])
			}
		}
		wantForm(t, "one word more", append(slices.Clone(words), 0))
		wantForm(t, "a group more", append(slices.Clone(words), words[3:20]...))
		for _, n := range []uint64{0, 1, 2, 3, 4, 5, 8, 63, 64, 65, 4096, 8192, 1 << 32, 1<<32 + uint64(groups), 1 << 63, 1<<63 + uint64(groups), math.MaxUint64} {
			if n != uint64(groups) {
				wantForm(t, "another number of groups", with(words, 0, n))
			}
		}
	}
	for _, groups := range []int{0, 3, 5, 6, 7, 12, 8192} {
		m := newModel(groups)
		wantForm(t, "a number of groups that is not allowed", m.words())
	}
}

// The number of entries, and how much the table may still grow.
func TestCounts(t *testing.T) {
	for _, words := range [][]uint64{
		inserted(t, 1), inserted(t, 1, run(0, 0, 3)...), inserted(t, 1, run(0, 0, 7)...),
		inserted(t, 2, run(0, 0, 14)...), remove(t, inserted(t, 2, run(0, 0, 9)...), 3, 103),
	} {
		for _, at := range []int{1, 2} {
			for _, n := range []uint64{0, 1, 2, 3, 6, 7, 8, 9, 13, 14, words[at] - 1, words[at] + 1, words[at] + 1<<32, words[at] + 1<<63, math.MaxUint64} {
				if n != words[at] {
					wantForm(t, "a wrong count", with(words, at, n))
				}
			}
		}
		wantForm(t, "both counts", with(with(words, 1, words[1]+1), 2, words[2]-1))
	}
}

// Seven slots a group may be full or deleted, and not one more.
func TestRoom(t *testing.T) {
	for _, last := range []slot{full(0, 1), {control: deleted}} {
		m := newModel(1)
		for i := range m[0] {
			m[0][i] = full(uint64(i), 1)
		}
		m[0][7] = last
		for _, growth := range []uint64{0, 1, 7, math.MaxUint64} {
			wantForm(t, "eight of one group", with(m.words(), 2, growth))
		}
		m = append(m, m...)
		for i := range 7 {
			m[1][i] = full(hashOf(1, 0), 1)
		}
		m[1][6], m[1][7] = slot{control: empty}, slot{control: empty}
		wantTable(t, m.words(), m.words())
		m[1][6] = full(hashOf(1, 0), 1)
		for _, growth := range []uint64{0, 1, 14, math.MaxUint64} {
			wantForm(t, "fifteen of two groups", with(m.words(), 2, growth))
		}
	}
}

// Each control byte is empty, deleted or full.
func TestControlBytes(t *testing.T) {
	for b := range 256 {
		for i := range 8 {
			m := newModel(2)
			for n := range 8 {
				m[0][n].control = deleted
			}
			m[0][i].control = byte(b)
			switch {
			case b == deleted:
				wantTable(t, m.words(), m.words())
			case b == 0:
				// It is a slot of the hash 0 and the id 0.
				wantTable(t, m.words(), m.words())
			default:
				wantForm(t, "a control byte among deleted ones", m.words())
			}
			m = newModel(1)
			m[0][i].control = byte(b)
			if b == empty || b == 0 {
				wantTable(t, m.words(), m.words())
				continue
			}
			wantForm(t, "a control byte among empty ones", m.words())
			// Nor is it, whichever way it is counted.
			wantForm(t, "counted as full", with(with(m.words(), 1, 1), 2, 6))
			wantForm(t, "counted as used", with(with(m.words(), 1, 0), 2, 6))
			wantForm(t, "counted as empty", with(with(m.words(), 1, 0), 2, 7))
		}
	}
}

// A full slot's control byte is the low seven bits of its hash.
func TestLowBits(t *testing.T) {
	for h2 := range 128 {
		hash := hashOf(0x1234567, byte(h2))
		words := inserted(t, 1, entry{hash, 4})
		wantTable(t, words, words)
		for _, other := range []uint64{hash ^ 1, hash ^ 64, hash ^ 0x7F, uint64(h2+1) % 128} {
			wantForm(t, "another hash", with(words, 4, other))
		}
		for _, other := range []uint64{hash + 128, hash ^ 1<<63, uint64(h2)} {
			if e := table.Check(with(words, 4, other)); e != api.OK {
				t.Fatalf("a hash with the same low bits: %d", e)
			}
		}
	}
}

// No group has both an empty and a deleted slot.
func TestEmptyAndDeleted(t *testing.T) {
	for i := range 8 {
		for n := range 8 {
			if i == n {
				continue
			}
			m := newModel(2)
			for k := range 8 {
				m[1][k] = full(hashOf(1, byte(k)), 7)
			}
			m[1][i] = slot{control: deleted}
			wantTable(t, m.words(), m.words())
			m[1][n] = slot{control: empty}
			wantForm(t, "empty and deleted", m.words())
		}
	}
	m := newModel(2)
	for k := range 8 {
		m[1][k].control = deleted
	}
	wantTable(t, m.words(), m.words())
}

// In slots that are not full, the hash and the id are 0.
func TestNothingInOpenSlots(t *testing.T) {
	words := remove(t, inserted(t, 2, run(0, 0, 9)...), 2, 102)
	for _, at := range []int{8, 9, 23, 24, 25, 36} {
		for _, n := range []uint64{1, 2, 128, 1 << 63, math.MaxUint64} {
			wantForm(t, "a word in an open slot", with(words, at, n))
		}
	}
	// A full slot may have any id.
	for _, n := range []uint64{0, 1, math.MaxUint64} {
		wantTable(t, with(words, 5, n), with(words, 5, n))
	}
}

// Each entry is found: no group ahead of its own has an empty slot, though one may be deleted.
func TestFound(t *testing.T) {
	for _, groups := range []int{2, 4, 8, 16} {
		for h1 := range uint64(groups) {
			order := slices.Collect(newModel(groups).order(hashOf(h1, 0)))
			for last := range groups - groups/8 - 1 {
				m := newModel(groups)
				for k, g := range order[:last] {
					for i := range m[g] {
						m[g][i] = full(hashOf(uint64(g), byte(i)), uint64(k))
					}
				}
				m[order[last]][3] = full(hashOf(h1+uint64(groups), 9), 7)
				wantTable(t, m.words(), m.words())
				wantFind(t, m.words(), hashOf(h1+uint64(groups), 9), 7)
				for k, g := range order[:last] {
					m[g][k%8] = slot{control: deleted}
					wantTable(t, m.words(), m.words())
					m[g][k%8] = slot{control: empty}
					wantForm(t, "an empty slot ahead", m.words())
					m[g][k%8] = full(hashOf(uint64(g), byte(k%8)), 0)
				}
			}
		}
	}
}

// All mixtures of slots in one group, with counts that are right, and with others.
func TestAllMixtures(t *testing.T) {
	for n := range 3 * 3 * 3 * 3 * 3 * 3 * 3 * 3 {
		m := newModel(1)
		for i, left := 0, n; i < 8; i, left = i+1, left/3 {
			m[0][i] = []slot{{control: empty}, {control: deleted}, full(uint64(n+i), uint64(i))}[left%3]
		}
		words := m.words()
		wantCheck(t, words)
		words[1]++
		wantCheck(t, words)
		words[1]--
		words[2]++
		wantCheck(t, words)
	}
}

// wantCheck holds Check against the chapter's words, and tells whether the table is sound.
func wantCheck(t *testing.T, words []uint64) bool {
	t.Helper()
	want := api.ErrForm
	if sound(words) {
		want = api.OK
	}
	if e := table.Check(words); e != want {
		t.Fatalf("Check: %d, want %d of\n%x", e, want, words)
	}
	return want == api.OK
}

// Drawn groups, most of them without empty slots: some entries are found and others are not.
func TestDrawnGroups(t *testing.T) {
	d := draw(21)
	soundOnes, others := 0, 0
	for range 30000 {
		m := newModel(sizes[d.below(5)])
		entries := 1 + d.below(4)
		for g := range m {
			if d.below(4) == 0 {
				continue
			}
			for i := range m[g] {
				m[g][i] = full(hashOf(uint64(g), byte(d.below(128))), d.next())
				if d.below(12) == 0 {
					m[g][i] = slot{control: deleted}
				}
			}
		}
		for range entries {
			m[d.below(len(m))][d.below(8)] = full(d.next(), d.next())
		}
		if wantCheck(t, m.words()) {
			soundOnes++
		} else {
			others++
		}
	}
	if soundOnes < 1000 || others < 1000 {
		t.Fatalf("%d sound ones, %d others", soundOnes, others)
	}
}

// Drawn tables that were sound, with one or two words or bytes changed.
func TestDrawnChanges(t *testing.T) {
	d := draw(22)
	soundOnes, others := 0, 0
	for range 3000 {
		m := newModel(sizes[d.below(4)])
		for range d.below(8*len(m) + 1) {
			m.insert(uint64(d.below(4))*uint64(1+d.below(len(m)))<<7+uint64(d.below(3)), uint64(d.below(3)))
		}
		for range d.below(4 * len(m)) {
			if list := m.all(); len(list) > 0 {
				en := list[d.below(len(list))]
				m.remove(en.hash, en.id)
			}
		}
		words := m.words()
		wantTable(t, words, words)
		for range 20 {
			changed := slices.Clone(words)
			for range 1 + d.below(2) {
				change(&d, changed)
			}
			if wantCheck(t, changed) {
				soundOnes++
			} else {
				others++
			}
		}
	}
	if soundOnes < 1000 || others < 1000 {
		t.Fatalf("%d sound ones, %d others", soundOnes, others)
	}
}

// change gives one word of a list another value.
func change(d *draw, words []uint64) {
	at := d.below(len(words))
	switch d.below(6) {
	case 0:
		words[at] ^= 1 << d.below(64)
	case 1:
		words[at]++
	case 2:
		words[at]--
	case 3:
		words[at] = words[d.below(len(words))]
	case 4:
		at = 3 + 17*d.below(len(words)/17)
		shift := 8 * d.below(8)
		b := []uint64{empty, deleted, 0, 1, 2, 0xFF, 0x81}[d.below(7)]
		words[at] = words[at]&^(0xFF<<shift) | b<<shift
	case 5:
		words[at] ^= uint64(d.below(16)) << 7
	}
}
