package maps_test

import (
	"slices"
	"strings"
	"testing"

	"heddle/api"
	"heddle/maps"
)

// keySet is a row of Ints, of which no more than most are worth their time.
type keySet struct {
	name string
	most int
	key  func(n uint64) []api.Cell
}

// keySets answers Ints whose hashes are spread, and such that share their leading bits.
func keySets() []keySet {
	return []keySet{
		{"one by one", 2000, func(n uint64) []api.Cell { return num(n) }},
		{"spread", 2000, func(n uint64) []api.Cell { return num(mix(n + 1)) }},
		{"one table", 400, func(n uint64) []api.Cell { return intWith(n) }},
		{"two tables", 600, func(n uint64) []api.Cell { return intWith(n&1<<58 | n) }},
		{"four branches", 800, func(n uint64) []api.Cell { return intWith(n&3<<62 | n) }},
	}
}

// wantRoom looks for room for so many entries in all that a map has.
func wantRoom(t *testing.T, b *book, what string, key func(n uint64) []api.Cell) {
	t.Helper()
	for n := uint64(0); len(b.list) < 64; n++ {
		if e := b.tryPut(key(n), num(n), b.addr); e != api.OK {
			t.Fatalf("%s: %d behind %d entries", what, e, len(b.list))
		}
	}
	b.check()
}

// fill puts entries till there is no room, or so many are there, and answers how many came.
func (b *book) fill(most int, key func(n uint64) []api.Cell) uint64 {
	b.t.Helper()
	for n := range uint64(most) {
		if b.tryPut(key(n), num(n), b.addr) != api.OK {
			return n
		}
	}
	return uint64(most)
}

// P17.6: room for 64 entries, whatever the pace and the keys.
func TestRoom(t *testing.T) {
	for _, set := range keySets() {
		for _, pace := range []int{1, 7, 100, never} {
			wantRoom(t, made(t, build(t, 512, pace), intMap), set.name, set.key)
		}
	}
}

// P17.6: the same behind a map that was full.
func TestRoomBehindFull(t *testing.T) {
	for i, set := range keySets() {
		for _, left := range []int{0, 1, 63} {
			b := made(t, build(t, 512, never), intMap)
			count := b.fill(set.most, set.key)
			// What is left lies as far apart as can be.
			apart := count/uint64(left+1) + 1
			for n := range count {
				if n%apart > 0 || left == 0 {
					b.remove(set.key(n))
				}
			}
			b.check()
			wantRoom(t, b, set.name, keySets()[(i+3)%5].key)
			b.clear()
			wantRoom(t, b, set.name, keySets()[(i+2)%5].key)
		}
	}
}

// P17.6: the same behind many keys whose tables were great one behind the other. A directory that only grows would fill the memory.
func TestRoomBehindGreatTables(t *testing.T) {
	for _, left := range []uint64{0, 1} {
		b := made(t, build(t, 512, never), intMap)
		for branch := range uint64(40) {
			key := func(n uint64) []api.Cell { return intWith(branch<<58 | n) }
			count := b.fill(150, key)
			for n := left; n < count; n++ {
				b.remove(key(n))
			}
		}
		b.check()
		wantRoom(t, b, "behind great tables", func(n uint64) []api.Cell { return intWith(63<<58 | n) })
	}
}

// P17.2: a table greater than any object may be: more entries than MaxObject has room for meet in their leading bits.
func TestGreatTable(t *testing.T) {
	b := made(t, build(t, 1024, never), intMap)
	if count := b.fill(1900, intWithN); count != 1900 {
		t.Fatalf("room for %d entries", count)
	}
	if got := len(b.iter(5).rest()); got != 1900 {
		t.Fatalf("an iterator gives %d", got)
	}
	for n := range uint64(1900) {
		if n%100 == 50 {
			b.get(intWith(n))
			b.remove(intWith(n))
			b.get(intWith(n))
		}
	}
}

func intWithN(n uint64) []api.Cell { return intWith(n) }

// P17.1, P17.2, P17.4: ErrFull, where there is no page at all.
func TestNoPages(t *testing.T) {
	m := build(t, 0, never)
	if addr, e := maps.Make(m, table(), intMap, nil); addr != 0 || e != api.ErrFull {
		t.Fatalf("Make: %d, %d", addr, e)
	}
	if it, e := maps.Iter(m, table(), intMap, 0, 5, nil); it != 0 || e != api.ErrFull {
		t.Fatalf("Iter: %d, %d", it, e)
	}
}

// P17.2: beside ErrFull the map is as before, whichever object it is that finds no room. The memory is one page greater each time.
func TestPutFull(t *testing.T) {
	long := strings.Repeat("x", 200)
	for _, typ := range []int{intMap, strMap, ifaceMap, wideMap, pairMap} {
		full := 0
		for pages := 1; pages < 40; pages++ {
			b := made(t, build(t, pages, never), typ)
			keys, vals := someKeys(keyOf(typ)), someVals(elemOf(typ))
			if typ == intMap {
				keys = nil
				for n := range uint64(60) {
					keys = append(keys, num(n))
				}
			}
			if typ == strMap {
				vals = append(vals, pair(5, long))
			}
			for i, key := range keys {
				if b.tryPut(key, vals[i%len(vals)], b.addr) == api.OK {
					continue
				}
				full++
				b.check()
				b.tryPut(keys[0], vals[len(vals)-1], b.addr)
				b.check()
			}
			collect(t, b.m, b.addr)
			b.check()
			// What goes makes room for what comes, where it is of one size.
			for _, en := range slices.Clone(b.list) {
				b.remove(en.key)
				if e := b.tryPut(en.key, en.val, b.addr); e != api.OK && typ == intMap {
					t.Fatalf("%d pages: no room for what there was room for", pages)
				}
			}
			b.check()
		}
		if full < 10 {
			t.Fatalf("type %d: %d times full", typ, full)
		}
	}
}

// P17.2: an entry whose new value finds no room has its old one; iterators go on.
func TestChangeFull(t *testing.T) {
	long := strings.Repeat("x", 3000)
	b := made(t, build(t, 20, never), strMap)
	for n := range uint64(8) {
		b.put(text(strings.Repeat("k", int(n))), pair(n, "short"))
	}
	it := b.iter(3)
	it.step()
	b.put(text("k"), pair(1, long), it.addr)
	for _, key := range []string{"", "kk"} {
		if e := b.tryPut(text(key), pair(2, long), b.addr, it.addr); e != api.ErrFull {
			t.Fatalf("Put: %d", e)
		}
	}
	b.check()
	if e := b.tryPut(text("a new one"), pair(2, long), b.addr, it.addr); e != api.ErrFull {
		t.Fatalf("Put: %d", e)
	}
	b.check()
	if it.rest(); b.next != 8 {
		t.Fatalf("the next is %d", b.next)
	}
	// The value that goes makes room.
	b.put(text("k"), pair(1, ""), it.addr)
	b.put(text("kk"), pair(2, long), it.addr)
	b.check()
}

// P17.4: an iterator that finds no room leaves the map as it was; a new one finds it where others went.
func TestIterFull(t *testing.T) {
	m := build(t, 5, never)
	b := ints(t, m, 2)
	roots := []int{b.addr}
	for {
		it, e := b.tryIter(1, roots...)
		if e == api.ErrFull {
			break
		}
		roots = append(roots, it.addr)
	}
	if len(roots) < 3 {
		t.Fatalf("%d iterators", len(roots)-1)
	}
	for _, it := range b.turns {
		it.rest()
	}
	b.check()
	b.turns = nil
	b.iter(1).rest()
}

// P17.1: a map that finds no room.
func TestMakeFull(t *testing.T) {
	m := build(t, 1, never)
	var roots []int
	for {
		addr, e := maps.Make(m, table(), intMap, roots)
		if e != api.OK {
			if addr != 0 || e != api.ErrFull {
				t.Fatalf("Make: %d, %d", addr, e)
			}
			break
		}
		roots = append(roots, addr)
	}
	if len(roots) < 2 {
		t.Fatalf("%d maps", len(roots))
	}
	made(t, m, intMap, roots[1:]...)
}

// P17.6: many maps in one memory, each with few entries, take little room.
func TestManySmallMaps(t *testing.T) {
	m := build(t, 512, never)
	var roots []int
	var books []*book
	for n := range uint64(100) {
		b := made(t, m, intMap, roots...)
		roots = append(roots, b.addr)
		books = append(books, b)
		for k := range n % 4 {
			b.put(num(k), num(n), roots...)
		}
	}
	for _, b := range books {
		b.check()
	}
}
