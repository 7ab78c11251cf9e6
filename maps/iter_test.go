package maps_test

import (
	"math"
	"slices"
	"testing"

	"heddle/api"
	"heddle/maps"
	"heddle/memory"
)

// ints answers a map of Ints with so many entries.
func ints(t *testing.T, m *memory.Memory, count int) *book {
	t.Helper()
	b := made(t, m, intMap)
	for n := range uint64(count) {
		b.put(num(n), num(100+n))
	}
	return b
}

// P17.4: an iterator is an object of its tag, which names its map.
func TestIterObject(t *testing.T) {
	m := build(t, 64, never)
	b := ints(t, m, 3)
	for draw := range uint64(4) {
		it := b.iter(draw)
		for range 5 {
			if o, e := m.Info(it.addr); e != api.OK || o.Tag != tagIter+intMap || !slices.Contains(o.Refs, b.addr) {
				t.Fatalf("the iterator: %v, %d", o, e)
			}
			it.step()
		}
	}
}

// P17.4: all entries come once, in an order that hangs on draw: each is the first with some draw.
func TestIterOrders(t *testing.T) {
	for _, count := range []int{0, 1, 2, 3, 7, 14, 15, 100} {
		b := ints(t, build(t, 1024, never), count)
		first := map[int]bool{}
		for draw := range uint64(count) {
			list := b.iter(draw).rest()
			if len(list) != count {
				t.Fatalf("%d entries, draw %d: %v", count, draw, list)
			}
			first[list[0]] = true
		}
		if len(first) != count {
			t.Fatalf("%d entries: the first ones are %v", count, first)
		}
		for _, draw := range []uint64{1 << 31, 1 << 32, 1 << 63, math.MaxUint64} {
			if list := b.iter(draw).rest(); len(list) != count {
				t.Fatalf("%d entries, draw %d: %v", count, draw, list)
			}
		}
	}
}

// P17.4: where some entries are gone, each of those that are left is the first with some draw too.
func TestIterOrdersWithGaps(t *testing.T) {
	b := ints(t, build(t, 512, never), 100)
	for n := range uint64(97) {
		b.remove(num(n))
	}
	first := map[int]bool{}
	for draw := range uint64(16) {
		first[b.iter(draw).rest()[0]] = true
	}
	if len(first) != 3 {
		t.Fatalf("the first ones are %v", first)
	}
}

// P17.4: the order hangs on nothing else: neither on the memory, nor on what lies there, nor on collections.
func TestIterOrderHangsOnNothingElse(t *testing.T) {
	var want [][]int
	for n, m := range []*memory.Memory{build(t, 1024, never), build(t, 200, never), build(t, 300, 1), build(t, 256, 50)} {
		roots := []int{}
		for range 37 * n {
			addr, _ := m.Alloc(make([]bool, 1+n), 3, roots)
			roots = append(roots, addr)
		}
		b := made(t, m, strMap, roots...)
		var got [][]int
		d := draw(5)
		for i := range 120 {
			key := text(string(rune(0x100 + d.below(60))))
			if d.below(3) > 0 {
				b.put(key, pair(uint64(i), "x"), roots...)
			} else {
				b.remove(key)
			}
			if i%10 == 9 {
				got = append(got, b.iter(d.next()).rest())
				b.turns = nil
			}
			if n > 1 && i%7 == 0 {
				collect(t, m, append(roots, b.addr)...)
			}
			m.Work(n * d.below(5))
		}
		if want == nil {
			want = got
		}
		if !slices.EqualFunc(got, want, slices.Equal) {
			t.Fatalf("memory %d: the orders are\n%v, want\n%v", n, got, want)
		}
	}
}

// P17.4: what is deleted before its turn does not come, what is deleted behind it makes no difference.
func TestIterDeleted(t *testing.T) {
	for draw := range uint64(6) {
		for gone := range uint64(6) {
			for steps := range 7 {
				b := ints(t, build(t, 64, never), 6)
				it := b.iter(draw)
				for range steps {
					it.step()
				}
				b.remove(num(gone))
				it.rest()
			}
		}
	}
}

// P17.4: the entry that was given last, and those around it, go; others come, and go as well.
func TestIterLosesItsPlace(t *testing.T) {
	for draw := range uint64(20) {
		for _, width := range []int{0, 1, 2, 19} {
			b := ints(t, build(t, 512, never), 20)
			it := b.iter(draw)
			for n := it.step(); n >= 0; n = it.step() {
				for gone := n - width; gone <= n+width; gone += 2 {
					b.remove(num(uint64(gone)))
				}
				b.put(num(uint64(1000+n)), num(1))
				b.put(num(uint64(n)), num(1))
				b.remove(num(uint64(1000 + n - 1)))
			}
			b.check()
		}
	}
}

// P17.4: the value that an entry has when its turn comes.
func TestIterChanged(t *testing.T) {
	b := made(t, build(t, 512, never), strMap)
	for _, key := range someKeys(aStr) {
		b.put(key, pair(1, "before"))
	}
	it := b.iter(4)
	for _, en := range slices.Clone(b.list) {
		b.put(en.key, pair(2, "now"))
		it.step()
		b.put(en.key, pair(3, ""))
	}
	it.rest()
	b.check()
}

// P17.4: what comes later is not given, also not with a key that was there; nor is what comes behind a clear.
func TestIterLater(t *testing.T) {
	for draw := range uint64(5) {
		b := ints(t, build(t, 512, never), 5)
		it, early := b.iter(draw), b.iter(draw+1)
		for n := range uint64(40) {
			b.put(num(n+3), num(n))
		}
		it.step()
		b.remove(num(2))
		b.put(num(2), num(0))
		it.rest()
		late := b.iter(draw)
		b.clear()
		for n := range uint64(5) {
			b.put(num(n), num(n))
		}
		for _, one := range []*turns{it, early, late} {
			one.rest()
		}
		if got := b.iter(draw).rest(); len(got) != 5 {
			t.Fatalf("%v", got)
		}
		b.check()
	}
}

// P17.4: behind the last one there is nothing more, and Next changes nothing any more.
func TestIterEnd(t *testing.T) {
	for count := range 4 {
		for draw := range uint64(3) {
			b := ints(t, build(t, 64, never), count)
			it := b.iter(draw)
			it.rest()
			before := look(b.m)
			for range 3 {
				it.step()
			}
			wantSame(t, b.m, before)
			b.put(num(77), num(7))
			b.remove(num(0))
			b.put(num(0), num(7))
			it.rest()
		}
	}
}

// P17.4: an iterator over a map without entries gives none of those that come.
func TestIterEmpty(t *testing.T) {
	b := made(t, build(t, 64, never), intMap)
	for draw := range uint64(3) {
		it := b.iter(draw)
		b.put(num(draw), num(1))
		it.rest()
		b.clear()
		it.rest()
		it = b.iter(draw)
		b.put(num(draw), num(1))
		it.rest()
	}
}

// P17.4: iterators over one map go their own ways.
func TestIterSeveral(t *testing.T) {
	b := ints(t, build(t, 512, never), 30)
	var all []*turns
	d := draw(9)
	for n := range 300 {
		if n%20 == 0 {
			all = append(all, b.iter(d.next()))
		}
		pick(&d, all...).step()
		switch d.below(6) {
		case 0:
			b.remove(num(uint64(d.below(60))))
		case 1:
			b.put(num(uint64(d.below(60))), num(uint64(n)))
		}
	}
	for _, it := range all {
		it.rest()
	}
}

// P17.4, P5: growth from one table to many, between one entry and the next.
func TestIterWhileGrowing(t *testing.T) {
	b := ints(t, build(t, 1024, never), 7)
	var all []*turns
	for n := range uint64(900) {
		if n%90 == 0 {
			all = append(all, b.iter(n))
		}
		b.put(num(1000+n), num(n))
		all[int(n)%len(all)].step()
		if n%3 == 0 {
			b.remove(num(n))
		}
	}
	for _, it := range all {
		it.rest()
	}
	b.check()
}

// P17.4, P5: all short scripts over maps of three entries.
func TestIterAllScripts(t *testing.T) {
	steps := []func(b *book, it *turns){
		func(b *book, it *turns) { it.step() },
		func(b *book, it *turns) { b.remove(num(0)) },
		func(b *book, it *turns) { b.remove(num(1)) },
		func(b *book, it *turns) { b.remove(num(2)) },
		func(b *book, it *turns) { b.put(num(0), num(9)) },
		func(b *book, it *turns) { b.put(num(2), num(8)) },
		func(b *book, it *turns) { b.clear() },
	}
	const length = 4
	scripts := 1
	for range length {
		scripts *= len(steps)
	}
	for draw := range uint64(3) {
		for n := range scripts {
			b := ints(t, build(t, 8, never), 3)
			it := b.iter(draw)
			for range length {
				steps[n%len(steps)](b, it)
				n /= len(steps)
			}
			it.rest()
			b.check()
		}
	}
}

// P17.4: Next asks for the type of the map, and of no other with the same keys and values.
func TestNextOfOtherTypes(t *testing.T) {
	m := build(t, 64, never)
	b := ints(t, m, 3)
	it := b.iter(0)
	before := look(m)
	for _, typ := range mapTypes() {
		want := api.ErrKind
		if typ == intMap {
			continue
		}
		for _, addr := range []int{it.addr, b.addr} {
			if n, k, v, e := maps.Next(m, table(), typ, addr); n != 0 || len(k)+len(v) > 0 || e != want {
				t.Fatalf("Next of type %d: %d, %v, %v, %d", typ, n, k, v, e)
			}
		}
	}
	wantSame(t, m, before)
	it.rest()
}
