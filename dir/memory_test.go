package dir_test

import (
	"iter"
	"slices"
	"testing"

	"heddle/api"
	"heddle/dir"
)

// roomy answers a copy of a directory, all of whose lists have spare room with something in it.
func roomy(d api.Dir) api.Dir {
	c := copied(d)
	c.Slots = append(c.Slots, 11, 12, 13)[:len(c.Slots)]
	for n := range c.Tabs {
		words := c.Tabs[n].Words
		c.Tabs[n].Words = append(words, 21, 22, 23)[:len(words)]
	}
	spare := api.Tab{Depth: 31, Words: []uint64{32}}
	c.Tabs = append(c.Tabs, spare, spare)[:len(c.Tabs)]
	return c
}

// whole answers a copy of a directory with the spare room of its lists.
func whole(d api.Dir) api.Dir {
	d.Slots, d.Tabs = d.Slots[:cap(d.Slots)], d.Tabs[:cap(d.Tabs)]
	c := copied(d)
	for n, tab := range d.Tabs {
		c.Tabs[n].Words = slices.Clone(tab.Words[:cap(tab.Words)])
	}
	return c
}

// spoil gives all of a list, spare room too, another value.
func spoil[T any](list []T, value T) {
	list = list[:cap(list)]
	for i := range list {
		list[i] = value
	}
}

// wantApart looks for lists of an answer that share nothing with one another.
func wantApart(t *testing.T, d api.Dir) {
	t.Helper()
	want := copied(d)
	for n := range d.Tabs {
		spoil(d.Tabs[n].Words, 0xDEAD)
		if d.Tabs[n].Words[0] != 0xDEAD {
			t.Fatal("nothing is spoilt")
		}
		copy(d.Tabs[n].Words, want.Tabs[n].Words)
		if !same(d, want) {
			t.Fatalf("table %d shares memory with another list", n)
		}
	}
	spoil(d.Slots, 0xDEAD)
	copy(d.Slots, want.Slots)
	if !same(d, want) {
		t.Fatal("the slots share memory with another list")
	}
}

// spoilAll gives all that a directory has other values.
func spoilAll(d api.Dir) {
	for _, tab := range d.Tabs {
		spoil(tab.Words, 0xDEAD)
	}
	spoil(d.Tabs, api.Tab{Depth: 0xDEAD})
	spoil(d.Slots, 0xDEAD)
}

// R4: what is handed in stays as it is, spare room included, and what is answered shares nothing with it, nor with another answer.
func TestMemoryIsNew(t *testing.T) {
	for _, sound := range some(t) {
		d := roomy(sound)
		before := whole(d)
		seq, _ := dir.All(d)
		list := pairs(seq)
		words := append(wordsOf(d), 41, 42)
		kept := slices.Clone(words)
		calls := []func() (api.Dir, api.Errno){
			func() (api.Dir, api.Errno) { return dir.New(), api.OK },
			func() (api.Dir, api.Errno) { return dir.Insert(d, 5, 5) },
			func() (api.Dir, api.Errno) { return dir.Insert(d, 1<<63, 5) },
			func() (api.Dir, api.Errno) { return dir.Of(words[:len(words)-2]) },
		}
		if len(list) > 0 {
			en := list[len(list)/2]
			calls = append(calls, func() (api.Dir, api.Errno) { return dir.Delete(d, en.hash, en.id) })
		}
		for n, call := range calls {
			one, e := call()
			if e != api.OK {
				t.Fatalf("call %d: %d", n, e)
			}
			want := copied(one)
			wantApart(t, one)
			other, _ := call()
			spoilAll(one)
			if !same(other, want) {
				t.Fatalf("call %d: two answers share memory", n)
			}
			if again, _ := call(); !same(again, want) {
				t.Fatalf("call %d: another answer behind a change of the first", n)
			}
			if !same(whole(d), before) || !slices.Equal(words, kept) {
				t.Fatalf("call %d: what was handed in has changed", n)
			}
		}
	}
}

// R4: Words is a list of its own.
func TestWordsAreNew(t *testing.T) {
	for _, sound := range some(t) {
		d := roomy(sound)
		before := whole(d)
		one, _ := dir.Words(d)
		other, _ := dir.Words(d)
		spoil(one, 0xDEAD)
		if !slices.Equal(other, wordsOf(sound)) || !same(whole(d), before) {
			t.Fatal("Words share memory")
		}
	}
}

// R4: calls that answer an error, or that only look, have changed nothing.
func TestErrorsChangeNothing(t *testing.T) {
	sound := roomy(deep(packed(api.MaxGroups, 0), blank(2)))
	broken := roomy(changed(sound, func(d *api.Dir) { d.Tabs[3].Depth++ }))
	for _, d := range []api.Dir{sound, broken} {
		before := whole(d)
		for _, hash := range []uint64{0, 5, 1 << 57, 1<<58 - 1} {
			if _, e := dir.Insert(d, hash, 5); e == api.OK {
				t.Fatal("Insert: there is room")
			}
			if _, e := dir.Delete(d, hash, 555); e == api.OK {
				t.Fatal("Delete: there is such an entry")
			}
			dir.Find(d, hash)
		}
		dir.All(d)
		dir.Check(d)
		dir.Len(d)
		if !same(whole(d), before) {
			t.Fatal("what was handed in has changed")
		}
	}
}

// seqs answers Find and All of a sound directory.
func seqs(t *testing.T, d api.Dir, hash uint64) (iter.Seq[uint64], iter.Seq2[uint64, uint64]) {
	t.Helper()
	ids, e := dir.Find(d, hash)
	if e != api.OK {
		t.Fatalf("Find: %d", e)
	}
	all, e := dir.All(d)
	if e != api.OK {
		t.Fatalf("All: %d", e)
	}
	return ids, all
}

// spread answers entries in many tables, ten of them with the hash 5.
func spread() (list []entry) {
	for n := range uint64(60) {
		list = append(list, entry{n << 58, n})
		if n%6 == 0 {
			list = append(list, entry{5, 100 + n})
		}
	}
	return list
}

// R6: iterators tell what there was at the call, and the same each time.
func TestIteratorsKeepWhatWasThere(t *testing.T) {
	d, m := inserted(t, spread()...)
	wantPairs := m.all()
	var wantIDs []uint64
	for _, en := range wantPairs {
		if en.hash == 5 {
			wantIDs = append(wantIDs, en.id)
		}
	}
	ids, all := seqs(t, d, 5)
	for range 3 {
		if got := slices.Collect(ids); !slices.Equal(got, wantIDs) || len(got) != 10 {
			t.Fatalf("Find: %d, want %d", got, wantIDs)
		}
		if got := pairs(all); !slices.Equal(got, wantPairs) {
			t.Fatalf("All: %x", got)
		}
		spoilAll(d)
	}
	// In the midst of a loop too.
	d = m.dir()
	_, all = seqs(t, d, 5)
	var got []entry
	for hash, id := range all {
		got = append(got, entry{hash, id})
		spoilAll(d)
	}
	if !slices.Equal(got, wantPairs) {
		t.Fatalf("All, while the directory is changed: %x", got)
	}
}

// R6: a loop that is left gets nothing more, and the next one begins anew.
func TestIteratorsLeftEarly(t *testing.T) {
	d, m := inserted(t, spread()...)
	ids, all := seqs(t, d, 5)
	wantPairs := m.all()
	wantIDs := slices.Collect(ids)
	for count := 1; count <= len(wantPairs); count++ {
		var list []entry
		all(func(hash, id uint64) bool {
			list = append(list, entry{hash, id})
			return len(list) < count
		})
		if !slices.Equal(list, wantPairs[:count]) {
			t.Fatalf("All, left behind %d: %x", count, list)
		}
	}
	for count := 1; count <= len(wantIDs); count++ {
		var list []uint64
		ids(func(id uint64) bool {
			list = append(list, id)
			return len(list) < count
		})
		if !slices.Equal(list, wantIDs[:count]) {
			t.Fatalf("Find, left behind %d: %d", count, list)
		}
	}
	if !slices.Equal(slices.Collect(ids), wantIDs) || !slices.Equal(pairs(all), wantPairs) {
		t.Fatal("behind loops that were left, another thing comes")
	}
}

// R6: loops over one iterator within one another, and side by side, don't disturb each other.
func TestIteratorsWithinOneAnother(t *testing.T) {
	d, m := inserted(t, spread()...)
	_, all := seqs(t, d, 5)
	want := m.all()
	var outer []entry
	for hash, id := range all {
		outer = append(outer, entry{hash, id})
		if inner := pairs(all); !slices.Equal(inner, want) {
			t.Fatalf("All within All: %x", inner)
		}
	}
	if !slices.Equal(outer, want) {
		t.Fatalf("the loop itself: %x", outer)
	}
	first, stopFirst := iter.Pull2(all)
	second, stopSecond := iter.Pull2(all)
	defer stopFirst()
	defer stopSecond()
	for _, en := range want {
		hash, id, ok := first()
		other, otherID, otherOK := second()
		if !ok || !otherOK || (entry{hash, id}) != en || (entry{other, otherID}) != en {
			t.Fatalf("side by side: %x, %d and %x, %d, want %x", hash, id, other, otherID, en)
		}
	}
}
