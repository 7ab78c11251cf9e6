package table_test

import (
	"iter"
	"math"
	"slices"
	"testing"

	"heddle/api"
	"heddle/table"
)

// entriesOf answers All of a sound table.
func entriesOf(t *testing.T, words []uint64) iter.Seq2[uint64, uint64] {
	t.Helper()
	seq, e := table.All(words)
	if e != api.OK {
		t.Fatalf("All: %d", e)
	}
	return seq
}

// idsOf answers Find of a sound table.
func idsOf(t *testing.T, words []uint64, hash uint64) iter.Seq[uint64] {
	t.Helper()
	seq, e := table.Find(words, hash)
	if e != api.OK {
		t.Fatalf("Find: %d", e)
	}
	return seq
}

// spoil gives all words of a list, spare room too, another value.
func spoil(words []uint64) {
	words = words[:cap(words)]
	for i := range words {
		words[i] = 0xDEAD
	}
}

// R4: what is handed in stays as it is, spare room included, and what is answered shares nothing with it, nor with another answer.
func TestMemoryIsNew(t *testing.T) {
	whole := append(remove(t, inserted(t, 2, run(0, 0, 9)...), 3, 103), 11, 12, 13)
	kept := slices.Clone(whole)
	words := whole[:len(whole)-3]
	calls := []func() ([]uint64, api.Errno){
		func() ([]uint64, api.Errno) { return table.New(2) },
		func() ([]uint64, api.Errno) { return table.Insert(words, 5, 5) },
		func() ([]uint64, api.Errno) { return table.Insert(words, hashOf(1, 5), 5) },
		func() ([]uint64, api.Errno) { return table.Delete(words, 4, 104) },
		func() ([]uint64, api.Errno) { return table.Delete(words, 8, 108) },
		func() ([]uint64, api.Errno) { return table.Grow(words, 2) },
		func() ([]uint64, api.Errno) { return table.Grow(words, 4) },
	}
	for n, call := range calls {
		one, e := call()
		if e != api.OK {
			t.Fatalf("call %d: %d", n, e)
		}
		want := slices.Clone(one)
		other, _ := call()
		spoil(one)
		if !slices.Equal(other, want) {
			t.Fatalf("call %d: two answers share memory", n)
		}
		if again, _ := call(); !slices.Equal(again, want) {
			t.Fatalf("call %d: another answer behind a change of the first", n)
		}
		if !slices.Equal(whole, kept) {
			t.Fatalf("call %d: what was handed in has changed:\n%x", n, whole)
		}
	}
	for _, hash := range []uint64{0, 3, 4, 8, 400} {
		idsOf(t, words, hash)
		table.Delete(words, hash, 1)
		table.Insert(words, hash, 1)
		entriesOf(t, words)
		table.Check(words)
		table.Len(words)
	}
	if !slices.Equal(whole, kept) {
		t.Fatalf("what was handed in has changed:\n%x", whole)
	}
}

// R4: calls that answer an error have changed nothing.
func TestErrorsChangeNothing(t *testing.T) {
	words := inserted(t, 1, run(0, 0, 7)...)
	kept := slices.Clone(words)
	for _, call := range []func() ([]uint64, api.Errno){
		func() ([]uint64, api.Errno) { return table.Insert(words, 3, 3) },
		func() ([]uint64, api.Errno) { return table.Delete(words, 3, 3) },
		func() ([]uint64, api.Errno) { return table.Grow(words, 3) },
	} {
		if _, e := call(); e == api.OK || !slices.Equal(words, kept) {
			t.Fatalf("%d, the table is\n%x", e, words)
		}
	}
	broken := with(words, 1, 9)
	kept = slices.Clone(broken)
	wantForm(t, "a wrong count", broken)
	if !slices.Equal(broken, kept) {
		t.Fatalf("a table that is not sound has changed:\n%x", broken)
	}
}

// R6: iterators tell what there was at the call, and the same each time.
func TestIteratorsKeepWhatWasThere(t *testing.T) {
	words := inserted(t, 2, entry{5, 1}, entry{5, 2}, entry{hashOf(1, 6), 3}, entry{5, 4})
	ids, all := idsOf(t, words, 5), entriesOf(t, words)
	wantIDs, wantPairs := []uint64{1, 2, 4}, []entry{{5, 1}, {5, 2}, {5, 4}, {hashOf(1, 6), 3}}
	for range 3 {
		if got := slices.Collect(ids); !slices.Equal(got, wantIDs) {
			t.Fatalf("Find: %d", got)
		}
		if got := pairs(all); !slices.Equal(got, wantPairs) {
			t.Fatalf("All: %d", got)
		}
		spoil(words)
	}
	// In the midst of a loop too.
	words = inserted(t, 2, entry{5, 1}, entry{5, 2}, entry{hashOf(1, 6), 3}, entry{5, 4})
	var got []uint64
	for id := range idsOf(t, words, 5) {
		got = append(got, id)
		spoil(words)
	}
	if !slices.Equal(got, wantIDs) {
		t.Fatalf("Find, while the table is changed: %d", got)
	}
}

// R6: a loop that is left gets nothing more, and the next one begins anew.
func TestIteratorsLeftEarly(t *testing.T) {
	words := inserted(t, 4)
	for n := range uint64(20) {
		words = insert(t, words, 5, n)
	}
	ids, all := idsOf(t, words, 5), entriesOf(t, words)
	whole, wholePairs := slices.Collect(ids), pairs(all)
	if len(whole) != 20 || len(wholePairs) != 20 {
		t.Fatalf("%d ids, %d pairs", len(whole), len(wholePairs))
	}
	for count := 1; count <= 20; count++ {
		var got []uint64
		ids(func(id uint64) bool {
			got = append(got, id)
			return len(got) < count
		})
		if !slices.Equal(got, whole[:count]) {
			t.Fatalf("Find, left behind %d: %d", count, got)
		}
		var list []entry
		all(func(hash, id uint64) bool {
			list = append(list, entry{hash, id})
			return len(list) < count
		})
		if !slices.Equal(list, wholePairs[:count]) {
			t.Fatalf("All, left behind %d: %d", count, list)
		}
	}
	if !slices.Equal(slices.Collect(ids), whole) || !slices.Equal(pairs(all), wholePairs) {
		t.Fatal("behind loops that were left, another thing comes")
	}
}

// R6: loops over one iterator within one another, and side by side, don't disturb each other.
func TestIteratorsWithinOneAnother(t *testing.T) {
	words := inserted(t, 2, entry{5, 1}, entry{5, 2}, entry{5, 3})
	ids, all := idsOf(t, words, 5), entriesOf(t, words)
	var outer []uint64
	for id := range ids {
		outer = append(outer, id)
		if inner := slices.Collect(ids); !slices.Equal(inner, []uint64{1, 2, 3}) {
			t.Fatalf("Find within Find: %d", inner)
		}
	}
	var outerPairs []entry
	for hash, id := range all {
		outerPairs = append(outerPairs, entry{hash, id})
		if inner := pairs(all); len(inner) != 3 || inner[2] != (entry{5, 3}) {
			t.Fatalf("All within All: %d", inner)
		}
	}
	if !slices.Equal(outer, []uint64{1, 2, 3}) || len(outerPairs) != 3 || outerPairs[2] != (entry{5, 3}) {
		t.Fatalf("the loops themselves: %d, %d", outer, outerPairs)
	}
	first, stopFirst := iter.Pull2(all)
	second, stopSecond := iter.Pull2(all)
	defer stopFirst()
	defer stopSecond()
	for n := range uint64(4) {
		_, a, okA := first()
		_, b, okB := second()
		if there := n < 3; okA != there || okB != there || there && (a != n+1 || b != n+1) {
			t.Fatalf("side by side, number %d: %d, %t and %d, %t", n, a, okA, b, okB)
		}
	}
}

// P14.1, P14.5, R1, R2, R3: numbers of groups that no table has.
func TestNoSize(t *testing.T) {
	wrong := []int{
		math.MinInt, math.MinInt + 1, -1 << 32, math.MinInt32, -4096, -2, -1, 0,
		2 * api.MaxGroups, 4 * api.MaxGroups, 1 << 20, 1 << 31, 1 << 32, 1<<32 + 1, 1<<32 + 2, 1 << 62, math.MaxInt - 1, math.MaxInt,
	}
	for n := 3; n < 2*api.MaxGroups; n++ {
		if !slices.Contains(sizes, n) {
			wrong = append(wrong, n)
		}
	}
	blank, filled := inserted(t, 1), inserted(t, 2, run(0, 0, 14)...)
	for _, groups := range wrong {
		words, e := table.New(groups)
		wantNone(t, words, e, api.ErrArg)
		words, e = table.Grow(blank, groups)
		wantNone(t, words, e, api.ErrArg)
		// ErrArg stands ahead of ErrFull, which a negative number would be as well.
		words, e = table.Grow(filled, groups)
		wantNone(t, words, e, api.ErrArg)
	}
}
