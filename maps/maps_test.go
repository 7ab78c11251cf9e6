package maps_test

import (
	"math"
	"slices"
	"strings"
	"testing"

	"heddle/api"
	"heddle/cells"
	"heddle/maps"
)

// P17.1 to P17.4: the chapter's first example.
func TestExampleInts(t *testing.T) {
	ts := []api.Type{{Kind: api.KInt}, {Kind: api.KMap}, {Kind: api.KFloat}, {Kind: api.KMap, Key: 2}}
	for draw := range uint64(4) {
		m := build(t, 64, never)
		a, e := maps.Make(m, ts, 1, nil)
		if a == 0 || e != api.OK {
			t.Fatalf("Make: %d, %d", a, e)
		}
		for _, c := range [][3]uint64{{5, 1, 0}, {6, 2, 1}, {5, 9, 0}} {
			if n, e := maps.Put(m, ts, 1, a, num(c[0]), num(c[1]), 3, []int{a}); n != int(c[2]) || e != api.OK {
				t.Fatalf("Put %d = %d: %d, %d", c[0], c[1], n, e)
			}
		}
		if v, ok, e := maps.Get(m, ts, 1, a, num(5), 3); !cells.Same(v, num(9)) || !ok || e != api.OK {
			t.Fatalf("Get 5: %v, %t, %d", v, ok, e)
		}
		if n, e := maps.Len(m, ts, 1, a); n != 2 || e != api.OK {
			t.Fatalf("Len: %d, %d", n, e)
		}
		it, e := maps.Iter(m, ts, 1, a, draw, []int{a})
		if it == 0 || e != api.OK {
			t.Fatalf("Iter: %d, %d", it, e)
		}
		n, k, v, e := maps.Next(m, ts, 1, it)
		if e != api.OK || n < 0 || n > 1 || !cells.Same(k, num(uint64(5+n))) || !cells.Same(v, num([]uint64{9, 2}[n])) {
			t.Fatalf("Next: %d, %v, %v, %d", n, k, v, e)
		}
		if ok, e := maps.Delete(m, ts, 1, a, num(uint64(6-n)), 3); !ok || e != api.OK {
			t.Fatalf("Delete: %t, %d", ok, e)
		}
		if n, k, v, e := maps.Next(m, ts, 1, it); n != 0 || len(k)+len(v) > 0 || e != api.ErrRange {
			t.Fatalf("Next: %d, %v, %v, %d", n, k, v, e)
		}
	}
}

// P17.2 to P17.4: the chapter's second example.
func TestExampleFloats(t *testing.T) {
	b := made(t, build(t, 64, never), floatMap)
	b.put(num(nan), num(1))
	b.put(num(nan), num(1))
	b.check()
	if len(b.list) != 2 {
		t.Fatalf("%d entries", len(b.list))
	}
	b.get(num(nan))
	b.remove(num(nan))
	if list := b.iter(5).rest(); len(list) != 2 {
		t.Fatalf("an iterator gives %v", list)
	}
	b.clear()
	b.check()
	b.put(num(0), num(1))
	b.put(num(minus), num(2))
	if n, k, v, e := maps.Next(b.m, table(), floatMap, b.iter(0).addr); n != 2 || k[0].N != 0 || v[0].N != 2 || e != api.OK {
		t.Fatalf("Next: %d, %v, %v, %d", n, k, v, e)
	}
}

// P17.1: a new map of each type is an object of its tag, without entries.
func TestMake(t *testing.T) {
	m := build(t, 64, never)
	var all []int
	for _, typ := range mapTypes() {
		b := made(t, m, typ, all...)
		all = append(all, b.addr)
		if o, e := m.Info(b.addr); e != api.OK || o.Tag != tagMap+typ || len(o.Refs) > 0 {
			t.Fatalf("the object of a map of type %d: %v, %d", typ, o, e)
		}
		b.check()
		if list := b.iter(3).rest(); len(list) > 0 {
			t.Fatalf("an iterator over a new map gives %v", list)
		}
	}
	collect(t, m, all...)
	wantLive(t, m, all...)
}

// P17.1: two maps of one type are two.
func TestMakeTwice(t *testing.T) {
	m := build(t, 64, never)
	a := made(t, m, intMap)
	b := made(t, m, intMap, a.addr)
	c := made(t, m, mapMap, a.addr, b.addr)
	a.put(num(1), num(2), b.addr, c.addr)
	b.put(num(1), num(3), a.addr, c.addr)
	b.put(num(2), num(4), a.addr, c.addr)
	c.put(num(1), num(uint64(a.addr)), b.addr)
	c.put(num(2), num(uint64(b.addr)), a.addr)
	a.remove(num(1))
	for _, one := range []*book{a, b, c} {
		one.check()
	}
	b.clear()
	c.check()
	// Those that are named by another map's entries live on.
	collect(t, m, c.addr)
	for _, one := range []*book{a, b, c} {
		one.put(num(9), num(0), c.addr)
		one.check()
	}
}

// someKeys answers keys of a type, no two of which are equal.
func someKeys(typ int) [][]api.Cell {
	switch typ {
	case anInt:
		return [][]api.Cell{num(0), num(1), num(2), num(255), num(256), num(1 << 32), num(1 << 63), num(math.MaxUint64)}
	case aStr:
		return [][]api.Cell{text(""), text("a"), text("b"), text("ab"), text("a\x00"), text("\x00"), text("\x00\x00"), text("abcdefgh"), text("abcdefgh\x00"), text(strings.Repeat("x", api.MaxStr)), text(strings.Repeat("x", api.MaxStr-1))}
	case aFloat:
		return [][]api.Cell{num(0), num(1), num(math.Float64bits(1)), num(math.Float64bits(-1)), num(math.Float64bits(math.Inf(1))), num(math.Float64bits(math.Inf(-1)))}
	case aBool:
		return [][]api.Cell{num(0), num(1)}
	case aPtr:
		return [][]api.Cell{num(0)}
	case anIface:
		return [][]api.Cell{num(0), holding(anInt, num(0)), holding(anInt, num(1)), holding(aFloat, num(0)), holding(aFloat, num(1)), holding(aBool, num(0)), holding(aStr, text("")), holding(aStr, text("a")), holding(aPtr, num(0)),
			holding(aPair, pair(0, "")), holding(aPair, pair(0, "a")), holding(floats, num(0, 1)), holding(single, num(0)), holding(single, holding(single, num(0))), holding(single, holding(single, holding(anInt, num(0))))}
	case aPair:
		return [][]api.Cell{pair(0, ""), pair(0, "a"), pair(1, ""), pair(1, "a"), pair(97, "")}
	case two:
		return [][]api.Cell{num(0, 0), num(0, 1), num(1, 0), num(1, 1), num(math.MaxUint64, 0)}
	case floats:
		return [][]api.Cell{num(0, 0), num(0, 1), num(1, 0), num(1, 1)}
	}
	return [][]api.Cell{text(make([]string, 16)...), text(slices.Repeat([]string{"a"}, 16)...), filled(text("a")...), filled(text("", "a")...), filled(text("ab", "c")...), filled(text("a", "bc")...)}
}

// someVals answers values of a type.
func someVals(typ int) [][]api.Cell {
	switch typ {
	case intMap:
		return [][]api.Cell{num(0)}
	case ifaces:
		return [][]api.Cell{filled(), filled(holding(aStr, text("x"))...), filled(holding(intMap, num(0))[0], holding(single, holding(ifaceMap, num(0)))[0], holding(texts, text(slices.Repeat([]string{"y"}, 16)...))[0])}
	case anIface:
		return append(someKeys(anIface), holding(intMap, num(0)), holding(ifaces, filled(holding(floatMap, num(0))...)))
	case aFloat:
		return append(someKeys(aFloat), num(nan), num(minus))
	}
	return someKeys(typ)
}

// P17.2, P17.3: keys and values of every type that they may have, put, changed, deleted and put again.
func TestAllTypes(t *testing.T) {
	for _, typ := range mapTypes() {
		b := made(t, build(t, 512, never), typ)
		keys, vals := someKeys(keyOf(typ)), someVals(elemOf(typ))
		for round := range 3 {
			for i, key := range keys {
				b.get(key)
				b.put(key, vals[(i+round)%len(vals)])
				b.check()
			}
		}
		if len(b.list) != len(keys) || b.next != len(keys) {
			t.Fatalf("type %d: %d entries, next %d, want %d", typ, len(b.list), b.next, len(keys))
		}
		for i, key := range keys {
			if i%2 == 0 {
				b.remove(key)
				b.remove(key)
				b.check()
				b.get(key)
			}
		}
		for i, key := range keys {
			b.put(key, vals[i%len(vals)])
		}
		b.check()
		if got := len(b.iter(1).rest()); got != len(keys) {
			t.Fatalf("type %d: an iterator gives %d entries, want %d", typ, got, len(keys))
		}
		b.clear()
		b.check()
	}
}

// P17.2: an entry's key is the one with which it came.
func TestKeysStay(t *testing.T) {
	for _, one := range []struct {
		typ         int
		first, then []api.Cell
		val         []api.Cell
	}{
		{floatMap, num(0), num(minus), num(1)},
		{floatMap, num(minus), num(0), num(1)},
		{floatsMap, num(minus, 0), num(0, minus), num(1)},
		{ifaceMap, holding(aFloat, num(minus)), holding(aFloat, num(0)), holding(anInt, num(1))},
		{ifaceMap, holding(floats, num(0, minus)), holding(floats, num(minus, 0)), num(0)},
	} {
		b := made(t, build(t, 64, never), one.typ)
		b.put(one.first, one.val)
		b.put(one.then, one.val)
		b.get(one.then)
		b.iter(0).rest()
		if len(b.list) != 1 || b.next != 1 {
			t.Fatalf("type %d: %d entries", one.typ, len(b.list))
		}
		b.remove(one.then)
		b.put(one.then, one.val)
		b.iter(0).rest()
		b.check()
	}
}

// P17.2, P17.3: a key that does not equal itself comes each time anew, and is neither found nor deleted.
func TestNans(t *testing.T) {
	for typ, key := range map[int][]api.Cell{
		floatMap:  num(nan),
		floatsMap: num(0, nan),
		ifaceMap:  holding(single, holding(floats, num(nan, 0))),
	} {
		b := made(t, build(t, 512, never), typ)
		val := make([]api.Cell, len(leaves(elemOf(typ))))
		other := someKeys(keyOf(typ))[0]
		b.put(other, val)
		for range 60 {
			b.put(key, val)
		}
		b.get(key)
		b.remove(key)
		b.check()
		if got := b.iter(17).rest(); len(b.list) != 61 || len(got) != 61 {
			t.Fatalf("type %d: %d entries, an iterator gives %d", typ, len(b.list), len(got))
		}
		it := b.iter(44)
		it.step()
		b.remove(other)
		b.clear()
		it.step()
		b.check()
	}
	// Nans of all kinds are such keys.
	b := made(t, build(t, 64, never), floatMap)
	for _, n := range []uint64{nan, nan + 1, nan | minus, 0x7ff0000000000001, math.MaxUint64} {
		b.put(num(n), num(n))
		b.put(num(n), num(n))
	}
	b.iter(3).rest()
	if len(b.list) != 10 {
		t.Fatalf("%d entries", len(b.list))
	}
}

// P17.3: the zero value, if there is no such entry, or the map is nil.
func TestZeroValues(t *testing.T) {
	for _, typ := range mapTypes() {
		b := made(t, build(t, 64, never), typ)
		for _, key := range someKeys(keyOf(typ)) {
			b.get(key)
			b.remove(key)
		}
		b.addr = 0
		for _, key := range someKeys(keyOf(typ)) {
			b.get(key)
			b.remove(key)
		}
		b.clear()
		b.check()
	}
}

// P17.2 to P17.4: a nil map.
func TestNilMap(t *testing.T) {
	m := build(t, 64, never)
	for _, typ := range mapTypes() {
		key, val := someKeys(keyOf(typ))[0], someVals(elemOf(typ))[0]
		before := look(m)
		if n, e := maps.Put(m, table(), typ, 0, key, val, seed, nil); n != 0 || e != api.ErrNil {
			t.Fatalf("Put in nil: %d, %d", n, e)
		}
		wantSame(t, m, before)
		b := &book{t: t, m: m, typ: typ, seed: seed}
		it := b.iter(9)
		if o, _ := m.Info(it.addr); o.Tag != tagIter+typ || len(o.Refs) > 0 {
			t.Fatalf("an iterator over a nil map of type %d: %v", typ, o)
		}
		it.rest()
		it.rest()
	}
}

// P17.2: numbers don't come again, whether entries go one by one or all at once.
func TestNumbers(t *testing.T) {
	b := made(t, build(t, 64, never), intMap)
	for n := range uint64(5) {
		b.put(num(n), num(n))
	}
	for n := range uint64(5) {
		b.remove(num(4 - n))
		b.put(num(4-n), num(n))
	}
	if b.next != 10 {
		t.Fatalf("the next is %d", b.next)
	}
	b.clear()
	b.put(num(1), num(1))
	b.put(num(1), num(2))
	b.remove(num(1))
	b.put(num(1), num(1))
	b.remove(num(1))
	b.clear()
	b.clear()
	b.put(num(1), num(1))
	if b.next != 13 {
		t.Fatalf("the next is %d", b.next)
	}
	b.check()
}

// P17.2, P17.3: keys that all have one hash, or meet in its low or its leading bits.
func TestKeysThatMeet(t *testing.T) {
	for name, hash := range map[string]func(n uint64) uint64{
		"one hash":     func(n uint64) uint64 { return 0x123456789ABCDEF0 },
		"zero":         func(n uint64) uint64 { return 0 },
		"leading bits": func(n uint64) uint64 { return n },
		"low bits":     func(n uint64) uint64 { return n << 57 },
		"all but one":  func(n uint64) uint64 { return n << 63 },
		"one group":    func(n uint64) uint64 { return n<<40 | n%7 },
	} {
		b := made(t, build(t, 1024, never), twoMap)
		for n := range uint64(200) {
			b.put(twoWith(n, hash(n)), num(n))
		}
		b.check()
		b.get(twoWith(200, hash(200)))
		it := b.iter(100)
		for n := range uint64(200) {
			if n%3 > 0 {
				b.remove(twoWith(n, hash(n)))
			}
			if n%50 == 0 {
				it.step()
				b.check()
			}
		}
		for n := range uint64(300) {
			b.put(twoWith(n, hash(n)), num(n+1))
		}
		b.check()
		if it.rest(); len(b.list) != 300 {
			t.Fatalf("%s: %d entries", name, len(b.list))
		}
	}
}

// The crafted keys have the hashes that they are to have: else the tests with them would be worth nothing.
func TestCraftedKeys(t *testing.T) {
	for n := range uint64(200) {
		for _, h := range []uint64{0, n, n << 57, math.MaxUint64} {
			if x := mix(twoWith(n, h)[1].N ^ mix(n^seed)); x != h || mix(intWith(h)[0].N^seed) != h {
				t.Fatalf("%#x, want %#x", x, h)
			}
		}
	}
}

// P17.2, P17.3: whatever the seed, the same is found; another map may have another seed.
func TestSeeds(t *testing.T) {
	m := build(t, 1024, never)
	var books []*book
	var roots []int
	for _, seed := range []uint64{0, 1, 2, 1 << 63, math.MaxUint64, 0x9E3779B97F4A7C15} {
		b := made(t, m, strMap, roots...)
		b.seed = seed
		roots = append(roots, b.addr)
		books = append(books, b)
	}
	for n := range 60 {
		for _, b := range books {
			b.put(text(strings.Repeat("k", n)), pair(uint64(n), "v"), roots...)
		}
	}
	for _, b := range books {
		for n := range 60 {
			if n%4 > 0 {
				b.remove(text(strings.Repeat("k", n)))
			}
		}
		b.check()
	}
}

// P17.3: Delete and Clear of a map of many entries, and puts behind them.
func TestManyEntries(t *testing.T) {
	b := made(t, build(t, 1024, never), intMap)
	for round := range 3 {
		for n := range uint64(1500) {
			b.put(num(n*n), num(n))
		}
		for n := range uint64(1500) {
			if n%5 > 0 {
				b.remove(num(n * n))
			}
		}
		b.check()
		if got := len(b.iter(uint64(round) * 77).rest()); got != 300 {
			t.Fatalf("an iterator gives %d entries", got)
		}
		if round == 1 {
			b.clear()
			b.check()
		}
	}
}
