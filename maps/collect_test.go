package maps_test

import (
	"slices"
	"strings"
	"testing"

	"heddle/api"
	"heddle/cells"
	"heddle/layout"
	"heddle/maps"
	"heddle/memory"
)

// page is a text that takes a page of its own.
var page = strings.Repeat("page", 64)

// object makes an object that holds an Int.
func object(t *testing.T, m *memory.Memory, n uint64, roots ...int) int {
	t.Helper()
	addr, e := layout.Make(m, table(), anInt, roots)
	if e == api.OK {
		e = m.Set(addr, 0, n)
	}
	if e != api.OK {
		t.Fatalf("Make: %d", e)
	}
	return addr
}

func wantObject(t *testing.T, m *memory.Memory, addr int, n uint64) {
	t.Helper()
	if v, e := layout.Fetch(m, table(), anInt, addr); e != api.OK || !cells.Same(v, num(n)) {
		t.Fatalf("the object at %d: %v, %d, want %d", addr, v, e, n)
	}
}

func wantGone(t *testing.T, m *memory.Memory, addrs ...int) {
	t.Helper()
	for _, addr := range addrs {
		if _, e := m.Get(addr, 0); e != api.ErrNone {
			t.Fatalf("the object at %d: %d", addr, e)
		}
	}
}

// litter fills so many pages with single words that nobody holds.
func litter(t *testing.T, m *memory.Memory, pages int) {
	t.Helper()
	for range pages * 32 {
		if _, e := m.Alloc([]bool{false}, 5, nil); e != api.OK {
			t.Fatalf("Alloc: %d", e)
		}
	}
}

// P17.5: what a map holds is there behind whole cycles, begun and carried out between all calls.
func TestCollected(t *testing.T) {
	for _, typ := range mapTypes() {
		b := made(t, build(t, 512, never), typ)
		keys, vals := someKeys(keyOf(typ)), someVals(elemOf(typ))
		for i, key := range keys {
			b.put(key, vals[i%len(vals)])
			collect(t, b.m, b.addr)
			b.check()
		}
		it := b.iter(2)
		for range len(keys) / 2 {
			it.step()
			collect(t, b.m, it.addr)
			b.check()
		}
		b.remove(keys[0])
		collect(t, b.m, it.addr)
		it.rest()
		b.check()
	}
}

// P17.5: calls in each phase of a cycle, unit by unit.
func TestCyclesBetween(t *testing.T) {
	for units := 1; units < 40; units += 3 {
		m := build(t, 64, never)
		b := made(t, m, strMap)
		d := draw(units)
		it := b.iter(0)
		for n := range 300 {
			if m.Phase() == api.Idle {
				if e := m.Begin([]int{b.addr, it.addr}); e != api.OK {
					t.Fatal(e)
				}
			}
			key := text(string(rune('a' + d.below(26))))
			switch d.below(6) {
			case 0:
				b.remove(key)
			case 1:
				it.step()
			case 2:
				if len(it.left) == 0 {
					b.turns = nil
					it = b.iter(d.next())
				}
			case 3:
				if d.below(20) == 0 {
					b.clear()
				}
			default:
				b.put(key, pair(uint64(n), "text"))
			}
			m.Work(units)
			b.check()
		}
		if m.Cycles() == 0 {
			t.Fatal("no cycle")
		}
	}
}

// P17.5: a map that is reached by its iterator alone, or by another map's entry.
func TestReachedByIterator(t *testing.T) {
	m := build(t, 64, never)
	b := ints(t, m, 20)
	it := b.iter(7)
	for range 20 {
		collect(t, m, it.addr)
		it.step()
		b.check()
	}
	it.rest()
	collect(t, m, it.addr)
	b.check()
	collect(t, m)
	wantLive(t, m)
}

// P17.2: a put's roots, its map, and what its key and its value name, in boxes too, outlive the cycles that its objects ask for.
func TestPutHolds(t *testing.T) {
	for free := range 4 {
		for _, there := range []bool{false, true} {
			m := build(t, 60, never)
			b := made(t, m, ifaceMap)
			held := object(t, m, 1, b.addr)
			p, q := object(t, m, 2, b.addr, held), uint64(0)
			q = uint64(object(t, m, 3, b.addr, held, p))
			key := holding(single, holding(aPtr, num(uint64(p))))
			val := holding(ifaces, filled(holding(aStr, text(page))[0], holding(aPtr, num(q))[0], holding(single, holding(aPair, pair(5, page)))[0]))
			if there {
				if n, e := maps.Put(m, table(), ifaceMap, b.addr, key, holding(anInt, num(5)), seed, []int{held, int(q)}); n != 0 || e != api.OK {
					t.Fatalf("Put: %d, %d", n, e)
				}
			}
			litter(t, m, 50-free)
			for range free {
				if _, e := m.Alloc(make([]bool, 32), 6, nil); e != api.OK {
					t.Fatalf("Alloc: %d", e)
				}
			}
			for m.Fits(32) {
				m.Alloc(make([]bool, 32), 6, nil)
			}
			before := m.Cycles()
			if n, e := maps.Put(m, table(), ifaceMap, b.addr, key, val, seed, []int{held}); n != 0 || e != api.OK {
				t.Fatalf("Put: %d, %d", n, e)
			}
			if m.Cycles() == before {
				t.Fatal("no cycle")
			}
			wantObject(t, m, held, 1)
			collect(t, m, b.addr)
			wantObject(t, m, p, 2)
			wantObject(t, m, int(q), 3)
			wantGone(t, m, held)
			if v, ok, e := maps.Get(m, table(), ifaceMap, b.addr, key, seed); !ok || e != api.OK || !cells.Same(v, val) {
				t.Fatalf("Get: %v, %t, %d", v, ok, e)
			}
		}
	}
}

// P17.4: an iterator's map counts among the roots when the iterator asks for a whole cycle, and so do the roots.
func TestIterHolds(t *testing.T) {
	m := build(t, 20, never)
	b := ints(t, m, 5)
	held := object(t, m, 1, b.addr)
	for _, words := range []int{32, 6, 5} {
		for m.Fits(words) {
			if _, e := m.Alloc(make([]bool, words), 6, nil); e != api.OK {
				t.Fatal(e)
			}
		}
	}
	it, e := b.tryIter(2, held)
	if e != api.OK || m.Cycles() != 1 {
		t.Fatalf("Iter: %d, %d cycles", e, m.Cycles())
	}
	b.check()
	it.rest()
	wantObject(t, m, held, 1)
}

// P17.1, P17.2, P17.4: with the pace 1 each object that comes begins a cycle where none runs; a map counts among the roots of its puts and its iterators.
func TestEachCallCounts(t *testing.T) {
	m := build(t, 200, 1)
	b := made(t, m, strMap)
	d := draw(3)
	for n := range 400 {
		key := text(strings.Repeat("k", d.below(40)))
		if d.below(3) == 0 {
			b.remove(key)
		} else if e := b.tryPut(key, pair(uint64(n), page)); e != api.OK {
			t.Fatalf("Put: %d", e)
		}
		if d.below(4) == 0 {
			it, e := b.tryIter(d.next())
			if e != api.OK {
				t.Fatalf("Iter: %d", e)
			}
			it.rest()
			b.turns = nil
		}
		m.Work(d.below(200))
		b.check()
	}
	if m.Cycles() < 20 {
		t.Fatalf("%d cycles", m.Cycles())
	}
}

// P17.1, P17.2, P17.4: in the phase Mark the cycle that runs already is outlived by the roots too.
func TestRootsInMark(t *testing.T) {
	m := build(t, 64, never)
	b := made(t, m, ptrMap)
	var list []int
	for n := range uint64(6) {
		list = append(list, object(t, m, n))
	}
	if e := m.Begin(nil); e != api.OK {
		t.Fatal(e)
	}
	c := made(t, m, ptrMap, list[0])
	if n, e := maps.Put(m, table(), ptrMap, b.addr, num(uint64(list[1])), num(uint64(list[2])), seed, []int{list[3]}); n != 0 || e != api.OK {
		t.Fatalf("Put: %d, %d", n, e)
	}
	it, e := maps.Iter(m, table(), ptrMap, c.addr, 0, []int{list[4]})
	if e != api.OK {
		t.Fatal(e)
	}
	toSweep(m)
	for n, addr := range list[:5] {
		wantObject(t, m, addr, uint64(n))
	}
	wantGone(t, m, list[5])
	if _, _, _, e := maps.Next(m, table(), ptrMap, it); e != api.ErrRange {
		t.Fatalf("Next: %d", e)
	}
}

// P17.3, P7: what an entry held is gone with it, whatever iterators stand at it or beside it.
func TestGoneIsGone(t *testing.T) {
	for draw := range uint64(4) {
		for _, clear := range []bool{false, true} {
			m := build(t, 64, never)
			b := made(t, m, ptrMap)
			var list []int
			for n := range uint64(4) {
				p := object(t, m, n, b.addr)
				q := object(t, m, 10+n, b.addr, p)
				b.put(num(uint64(p)), num(uint64(q)))
				list = append(list, p, q)
			}
			it := b.iter(draw)
			it.step()
			late := b.iter(draw)
			if clear {
				b.clear()
			}
			for n := range 4 {
				b.remove(num(uint64(list[2*n])))
			}
			before := len(objects(m))
			collect(t, m, it.addr, late.addr)
			wantGone(t, m, list...)
			// Of the entries at most those are left at which the iterators stand.
			if after := len(objects(m)); after > before-8-2 {
				t.Fatalf("%d objects are left of %d", after, before)
			}
			it.rest()
			late.rest()
			b.check()
		}
	}
}

// P17.3: of a map that was cleared nothing is left but its object; so it is of a map whose value is changed.
func TestNothingIsLeft(t *testing.T) {
	for _, typ := range mapTypes() {
		m := build(t, 512, never)
		b := made(t, m, typ)
		for i, key := range someKeys(keyOf(typ)) {
			vals := someVals(elemOf(typ))
			b.put(key, vals[i%len(vals)])
		}
		b.clear()
		collect(t, m, b.addr)
		wantLive(t, m, b.addr)
	}
	m := build(t, 64, never)
	b := made(t, m, strMap)
	b.put(text("key"), pair(1, ""))
	count := len(objects(m))
	for range 5 {
		b.put(text("key"), pair(1, page))
		collect(t, m, b.addr)
		if n := len(objects(m)); n != count+1 {
			t.Fatalf("%d objects, want %d", n, count+1)
		}
	}
}

// P17.5, 'Words': each object has a tag that the chapters tell.
func TestTags(t *testing.T) {
	for _, typ := range mapTypes() {
		m := build(t, 512, never)
		b := made(t, m, typ)
		vals := someVals(elemOf(typ))
		for range 3 {
			for i, key := range someKeys(keyOf(typ)) {
				b.put(key, vals[i%len(vals)])
			}
		}
		it := b.iter(3)
		collect(t, m, it.addr)
		count := map[int]int{}
		for _, o := range objects(m) {
			count[o.Tag]++
			if o.Tag >= typeCount && o.Tag != tagStr && o.Tag != tagMap+typ && o.Tag != tagIter+typ && (o.Tag <= tagMap+4096 || o.Tag >= tagIter) {
				t.Fatalf("an object of tag %d", o.Tag)
			}
		}
		if count[tagMap+typ] != 1 || count[tagIter+typ] != 1 {
			t.Fatalf("maps and iterators: %v", count)
		}
	}
}

// P17.5: chapter 16's Keep and Save beside the maps, of what names them.
func TestBesideLayout(t *testing.T) {
	m := build(t, 64, 40)
	b := ints(t, m, 5)
	holder, e := layout.Make(m, table(), single, []int{b.addr})
	if e != api.OK {
		t.Fatal(e)
	}
	if e := layout.Keep(m, table(), single, holder, holding(intMap, num(uint64(b.addr))), nil); e != api.OK {
		t.Fatal(e)
	}
	for n := range uint64(200) {
		words, e := layout.Save(m, table(), aPair, pair(n, "text"), []int{holder})
		if e != api.OK || len(words) != 3 {
			t.Fatal(e)
		}
		b.put(num(n%9), num(n), holder)
		collect(t, m, holder)
		b.check()
	}
	v, e := layout.Fetch(m, table(), single, holder)
	if e != api.OK || !slices.Equal(namesIn(single, v), []int{b.addr}) {
		t.Fatalf("Fetch: %v, %d", v, e)
	}
}
