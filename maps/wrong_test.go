package maps_test

import (
	"math"
	"slices"
	"testing"

	"heddle/api"
	"heddle/maps"
	"heddle/memory"
)

// badTables answers tables that are not sound.
func badTables() [][]api.Type {
	return [][]api.Type{
		{{}},
		{{Kind: 11}},
		{{Kind: api.KInt, Len: 1}},
		append(table(), api.Type{Kind: api.KMap, Key: intMap, Elem: anInt}),
		append(table(), api.Type{Kind: api.KMap, Key: anInt, Elem: intIter}),
		append(table(), api.Type{Kind: api.KMap, Key: anInt, Elem: typeCount + 1}),
		slices.Repeat([]api.Type{{Kind: api.KInt}}, api.MaxTypes+1),
	}
}

// badTypes answers numbers of no type.
func badTypes() []int { return []int{math.MinInt, -1, typeCount, 64, math.MaxInt} }

// given is what is handed to a call.
type given struct {
	m        *memory.Memory
	ts       []api.Type
	typ      int
	addr     int
	key, val []api.Cell
	roots    []int
}

// calls carries out all calls and answers their errors: Make, Put, Get, Delete, Clear, Len, Iter, Next. It looks for zero values beside errors.
func (g given) calls(t *testing.T) (list [8]api.Errno) {
	t.Helper()
	made, e0 := maps.Make(g.m, g.ts, g.typ, g.roots)
	number, e1 := maps.Put(g.m, g.ts, g.typ, g.addr, g.key, g.val, seed, g.roots)
	val, there, e2 := maps.Get(g.m, g.ts, g.typ, g.addr, g.key, seed)
	gone, e3 := maps.Delete(g.m, g.ts, g.typ, g.addr, g.key, seed)
	e4 := maps.Clear(g.m, g.ts, g.typ, g.addr)
	count, e5 := maps.Len(g.m, g.ts, g.typ, g.addr)
	it, e6 := maps.Iter(g.m, g.ts, g.typ, g.addr, 3, g.roots)
	turn, key, own, e7 := maps.Next(g.m, g.ts, g.typ, g.addr)
	if e0 != api.OK && made != 0 || e1 != api.OK && number != 0 || e2 != api.OK && (len(val) > 0 || there) || e3 != api.OK && gone ||
		e5 != api.OK && count != 0 || e6 != api.OK && it != 0 || e7 != api.OK && (turn != 0 || len(key) > 0 || len(own) > 0) {
		t.Fatalf("beside errors: %d, %d, %v %t, %t, %d, %d, %d %v %v", made, number, val, there, gone, count, it, turn, key, own)
	}
	return [8]api.Errno{e0, e1, e2, e3, e4, e5, e6, e7}
}

func (g given) want(t *testing.T, want ...api.Errno) {
	t.Helper()
	if got := g.calls(t); !slices.Equal(got[:], want) {
		t.Fatalf("the errors of Make, Put, Get, Delete, Clear, Len, Iter, Next are %d, want %d", got, want)
	}
}

func repeat(e api.Errno) []api.Errno { return slices.Repeat([]api.Errno{e}, 8) }

// All calls: ErrForm of the table stands first, then ErrArg of a nil memory and of what is no type, then ErrKind of what is no map's, whatever else is wrong.
func TestTableAndTypeFirst(t *testing.T) {
	m := build(t, 64, never)
	b := ints(t, m, 3)
	before := look(m)
	for _, memory := range []*memory.Memory{m, nil} {
		for _, addr := range []int{0, b.addr, b.addr + 1} {
			for _, roots := range [][]int{nil, {b.addr}, {8}} {
				for _, v := range [][]api.Cell{nil, num(5), text("x")} {
					g := given{memory, nil, 0, addr, v, v, roots}
					for _, ts := range badTables() {
						for _, typ := range append(badTypes(), 0) {
							g.ts, g.typ = ts, typ
							g.want(t, repeat(api.ErrForm)...)
						}
					}
					for _, typ := range badTypes() {
						g.ts, g.typ = table(), typ
						g.want(t, repeat(api.ErrArg)...)
						g.ts = nil
						g.want(t, repeat(api.ErrArg)...)
					}
					for typ, one := range table() {
						g.ts, g.typ = table(), typ
						if memory == nil {
							g.want(t, repeat(api.ErrArg)...)
						} else if one.Kind != api.KMap {
							g.want(t, repeat(api.ErrKind)...)
						}
					}
				}
			}
		}
	}
	wantSame(t, m, before)
}

// The errors behind those, in the chapter's order: each time the first that was told last is mended.
func TestOrderOfErrors(t *testing.T) {
	m := build(t, 6, never)
	b := made(t, m, ifaceMap)
	other := made(t, m, strMap, b.addr)
	it := b.iter(0, other.addr)
	full := []int{b.addr, other.addr, it.addr}
	for _, words := range []int{32, 1, 2, 3, 4, 6, 8, 12, 16} {
		for m.Fits(words) {
			addr, e := m.Alloc(make([]bool, words), 5, full)
			if e != api.OK {
				t.Fatal(e)
			}
			full = append(full, addr)
		}
	}
	wild := holding(single, holding(aPtr, num(8)))
	spoilt := holding(single, holding(intMap, num(0)))
	unsound := text("x")
	before := look(m)
	g := given{m, table(), ifaceMap, 8, unsound, unsound, []int{8}}
	// Make and Iter have no key, and Clear, Len and Next have no roots either.
	g.want(t, api.ErrNone, api.ErrForm, api.ErrForm, api.ErrForm, api.ErrNone, api.ErrNone, api.ErrNone, api.ErrNone)
	g.key = spoilt
	g.want(t, api.ErrNone, api.ErrForm, api.ErrHash, api.ErrHash, api.ErrNone, api.ErrNone, api.ErrNone, api.ErrNone)
	g.val = wild
	g.want(t, api.ErrNone, api.ErrNone, api.ErrHash, api.ErrHash, api.ErrNone, api.ErrNone, api.ErrNone, api.ErrNone)
	g.roots = full
	g.want(t, api.ErrFull, api.ErrNone, api.ErrHash, api.ErrHash, api.ErrNone, api.ErrNone, api.ErrNone, api.ErrNone)
	g.addr = 0
	g.want(t, api.ErrFull, api.ErrNone, api.ErrHash, api.ErrHash, api.OK, api.OK, api.ErrFull, api.ErrNil)
	g.val = num(0)
	g.want(t, api.ErrFull, api.ErrHash, api.ErrHash, api.ErrHash, api.OK, api.OK, api.ErrFull, api.ErrNil)
	g.key = wild
	g.want(t, api.ErrFull, api.ErrNone, api.OK, api.OK, api.OK, api.OK, api.ErrFull, api.ErrNil)
	g.key = num(0)
	g.want(t, api.ErrFull, api.ErrNil, api.OK, api.OK, api.OK, api.OK, api.ErrFull, api.ErrNil)
	g.roots = []int{8}
	g.want(t, api.ErrNone, api.ErrNone, api.OK, api.OK, api.OK, api.OK, api.ErrNone, api.ErrNil)
	g.addr, g.roots = 8, full
	g.want(t, api.ErrFull, api.ErrNone, api.ErrNone, api.ErrNone, api.ErrNone, api.ErrNone, api.ErrNone, api.ErrNone)
	for _, addr := range []int{other.addr, full[len(full)-1]} {
		g.addr, g.roots = addr, full
		g.want(t, api.ErrFull, api.ErrKind, api.ErrKind, api.ErrKind, api.ErrKind, api.ErrKind, api.ErrKind, api.ErrKind)
		g.key = spoilt
		g.want(t, api.ErrFull, api.ErrHash, api.ErrHash, api.ErrHash, api.ErrKind, api.ErrKind, api.ErrKind, api.ErrKind)
		g.key, g.roots = num(0), []int{8}
		g.want(t, api.ErrNone, api.ErrNone, api.ErrKind, api.ErrKind, api.ErrKind, api.ErrKind, api.ErrNone, api.ErrKind)
	}
	g.addr, g.roots = b.addr, full
	g.want(t, api.ErrFull, api.ErrFull, api.OK, api.OK, api.OK, api.OK, api.ErrFull, api.ErrKind)
	g.addr = it.addr
	g.want(t, api.ErrFull, api.ErrKind, api.ErrKind, api.ErrKind, api.ErrKind, api.ErrKind, api.ErrKind, api.ErrRange)
	after := look(m)
	// Where there was no room, cycles ran.
	after.view.Cycles = before.view.Cycles
	if len(after.view.Objects) != len(before.view.Objects) {
		t.Fatal("objects came or went")
	}
	b.check()
}

// ErrNone: addresses at which no live object begins, dead ones that were not swept among them.
func TestNoObject(t *testing.T) {
	m := build(t, 64, never)
	b := ints(t, m, 3)
	c := ints(t, m, 3)
	it := c.iter(0, b.addr)
	gone := object(t, m, 1, b.addr, c.addr)
	collect(t, m, b.addr, it.addr)
	if e := m.Begin([]int{b.addr}); e != api.OK {
		t.Fatal(e)
	}
	toSweep(m)
	before := look(m)
	for _, addr := range []int{math.MinInt, -8, 1, 8, 255, b.addr + 1, b.addr + 8, gone, c.addr, it.addr, 1 << 20, 1<<32 + b.addr, math.MaxInt} {
		g := given{m, table(), intMap, addr, num(1), num(2), nil}
		list := repeat(api.ErrNone)
		list[0] = api.OK
		g.want(t, list...)
		g.addr, g.roots = b.addr, []int{0, b.addr, addr}
		made, e := maps.Make(m, g.ts, g.typ, g.roots)
		number, f := maps.Put(m, g.ts, g.typ, g.addr, g.key, g.val, seed, g.roots)
		iter, h := maps.Iter(m, g.ts, g.typ, g.addr, 1, g.roots)
		if made != 0 || number != 0 || iter != 0 || e != api.ErrNone || f != api.ErrNone || h != api.ErrNone {
			t.Fatalf("root %d: %d, %d and %d, %d and %d, %d", addr, made, e, number, f, iter, h)
		}
	}
	// Only the new maps of Make have come.
	if n := len(objects(m)) - len(before.view.Objects); n != 13 {
		t.Fatalf("%d objects came", n)
	}
	b.check()
}

// P17.2: a number at a pointer of a key or a value that names no live object, in boxes too; the other calls don't ask.
func TestWildNames(t *testing.T) {
	m := build(t, 64, never)
	b := made(t, m, ifaceMap)
	p := object(t, m, 1, b.addr)
	gone := object(t, m, 2, b.addr, p)
	collect(t, m, b.addr, p)
	before := look(m)
	for _, n := range []int{1, 8, p + 1, p + 8, gone, math.MaxInt32} {
		for _, wild := range [][]api.Cell{holding(aPtr, num(uint64(n))), holding(single, holding(aPtr, num(uint64(n)))), holding(single, holding(single, holding(aPtr, num(uint64(n)))))} {
			for _, one := range [][2][]api.Cell{{wild, num(0)}, {num(0), wild}, {wild, wild}, {holding(aStr, text("x")), wild}} {
				for _, addr := range []int{b.addr, 0, 8} {
					if number, e := maps.Put(m, table(), ifaceMap, addr, one[0], one[1], seed, nil); number != 0 || e != api.ErrNone {
						t.Fatalf("Put(%v, %v) = %d, %d", one[0], one[1], number, e)
					}
				}
				b.get(one[0])
				b.remove(one[0])
			}
			val := holding(intMap, num(uint64(n)))
			if number, e := maps.Put(m, table(), ifaceMap, b.addr, num(0), val, seed, nil); number != 0 || e != api.ErrNone {
				t.Fatalf("Put(%v) = %d, %d", val, number, e)
			}
		}
	}
	wantSame(t, m, before)
	b.put(holding(aPtr, num(uint64(p))), holding(single, holding(aPtr, num(uint64(p)))))
	b.check()
}

// ErrHash: keys that can't be hashed, wherever it stands in them; values may hold what they like.
func TestUnhashable(t *testing.T) {
	m := build(t, 64, never)
	b := made(t, m, ifaceMap)
	b.put(num(0), holding(intMap, num(uint64(b.addr))))
	before := look(m)
	for _, key := range [][]api.Cell{holding(intMap, num(0)), holding(intMap, num(uint64(b.addr))), holding(single, holding(intMap, num(0))), holding(ifaces, filled(holding(aFloat, num(nan))[0], holding(strMap, num(0))[0]))} {
		for _, addr := range []int{b.addr, 0, 8} {
			g := given{m, table(), ifaceMap, addr, key, num(0), []int{b.addr}}
			number, e := maps.Put(m, g.ts, g.typ, addr, key, g.val, seed, g.roots)
			val, ok, f := maps.Get(m, g.ts, g.typ, addr, key, seed)
			gone, h := maps.Delete(m, g.ts, g.typ, addr, key, seed)
			if number != 0 || len(val) > 0 || ok || gone || e != api.ErrHash || f != api.ErrHash || h != api.ErrHash {
				t.Fatalf("%v: %d, %d and %v, %t, %d and %t, %d", key, number, e, val, ok, f, gone, h)
			}
		}
	}
	wantSame(t, m, before)
	b.check()
}

// R1: keys and values of any kind, also such that hold themselves.
func TestAnyValue(t *testing.T) {
	m := build(t, 64, never)
	b := made(t, m, ifaceMap)
	self := holding(single, nil)
	self[0].Box = self
	before := look(m)
	for _, v := range [][]api.Cell{
		nil, {}, num(1), num(0, 0), text("x"), self, holding(anIface, num(0)), holding(intIter, num(0)), holding(typeCount, num(0)), holding(-2, num(0)),
		holding(math.MaxInt-1, num(0)), holding(anInt, nil), holding(aBool, num(2)), holding(aPtr, num(1<<31)), holding(aStr, text(string(make([]byte, api.MaxStr+1)))),
	} {
		for _, addr := range []int{b.addr, 0, 8} {
			for _, roots := range [][]int{nil, {8}} {
				for _, pair := range [][2][]api.Cell{{v, num(0)}, {num(0), v}, {v, v}} {
					if n, e := maps.Put(m, table(), ifaceMap, addr, pair[0], pair[1], seed, roots); n != 0 || e != api.ErrForm {
						t.Fatalf("Put(%v, %v): %d, %d", pair[0], pair[1], n, e)
					}
				}
			}
			val, ok, e := maps.Get(m, table(), ifaceMap, addr, v, seed)
			gone, f := maps.Delete(m, table(), ifaceMap, addr, v, seed)
			if len(val) > 0 || ok || gone || e != api.ErrForm || f != api.ErrForm {
				t.Fatalf("%v: %v, %t, %d and %t, %d", v, val, ok, e, gone, f)
			}
		}
	}
	wantSame(t, m, before)
}

// R1: an empty memory without pages, which nobody made, is one too.
func TestZeroMemory(t *testing.T) {
	g := given{&memory.Memory{}, table(), intMap, 256, num(1), num(1), nil}
	list := repeat(api.ErrNone)
	list[0] = api.ErrFull
	g.want(t, list...)
	g.addr = 0
	g.want(t, api.ErrFull, api.ErrNil, api.OK, api.OK, api.OK, api.OK, api.ErrFull, api.ErrNil)
}

// ErrKind: objects of all other tags, though they be of a map's words.
func TestOtherTags(t *testing.T) {
	m := build(t, 64, never)
	b := ints(t, m, 2)
	ptrs, _ := m.Ptrs(b.addr)
	for _, tag := range []int{0, intMap, tagStr, tagMap, tagMap + intMap - 1, tagMap + intMap + 1, tagMap + 64, tagMap + 4096, tagMap + 4097, tagIter, tagIter + intMap + 1, math.MaxInt32} {
		addr, e := m.Alloc(ptrs, tag, []int{b.addr})
		if e != api.OK {
			t.Fatal(e)
		}
		before := look(m)
		g := given{m, table(), intMap, addr, num(1), num(1), []int{b.addr, addr}}
		list := repeat(api.ErrKind)
		got := g.calls(t)
		if !slices.Equal(got[1:], list[1:]) {
			t.Fatalf("tag %d: %d", tag, got)
		}
		if now := look(m); len(now.view.Objects) != len(before.view.Objects)+1 {
			t.Fatal("more than a new map has come")
		}
	}
	b.check()
}

// R1: objects that were made by hand with the tags of maps and of iterators, of any words, and maps in whose objects anything was written: every call ends, and none panics.
func TestVandals(t *testing.T) {
	for n := range 400 {
		d := draw(n)
		m := build(t, 200, pick(&d, 3, never))
		typ := pick(&d, intMap, strMap, ifaceMap, ptrMap, mapMap)
		b := made(t, m, typ)
		vals := someVals(elemOf(typ))
		for i, key := range someKeys(keyOf(typ)) {
			b.put(key, vals[i%len(vals)])
		}
		if typ == intMap {
			for range d.below(200) {
				b.put(num(d.next()), num(1))
			}
		}
		addrs := []int{b.addr, b.iter(d.next()).addr, b.iter(d.next()).addr}
		for range 3 {
			ptrs := make([]bool, 1+d.below(12))
			for i := range ptrs {
				ptrs[i] = d.below(2) == 0
			}
			addr, e := m.Alloc(ptrs, pick(&d, tagMap, tagIter)+typ, addrs)
			if e != api.OK {
				t.Fatal(e)
			}
			addrs = append(addrs, addr)
		}
		for range 30 {
			vandalize(&d, m)
			g := given{m, table(), pick(&d, typ, typ, intMap, strMap), pick(&d, addrs...), pick(&d, someKeys(keyOf(typ))...), pick(&d, vals...), addrs}
			g.calls(t)
			addrs = slices.DeleteFunc(addrs, func(addr int) bool { _, e := m.Get(addr, 0); return e != api.OK })
			if len(addrs) == 0 {
				break
			}
		}
	}
}

// vandalize writes into words of live objects.
func vandalize(d *draw, m *memory.Memory) {
	all := objects(m)
	for range 1 + d.below(4) {
		o := pick(d, all...)
		to := pick(d, all...)
		m.Set(o.Addr, d.below(o.Size/8), pick(d, 0, 1, uint64(d.below(9)), uint64(o.Addr), uint64(to.Addr), uint64(to.Addr), d.next(), math.MaxUint64, 1<<63))
	}
}

// R1: a table of types in which the map's type has other keys and values than in that with which the map was made.
func TestOtherTables(t *testing.T) {
	for _, typ := range mapTypes() {
		for _, other := range mapTypes() {
			m := build(t, 200, never)
			b := made(t, m, typ)
			vals := someVals(elemOf(typ))
			for i, key := range someKeys(keyOf(typ)) {
				b.put(key, vals[i%len(vals)])
			}
			it := b.iter(1)
			ts := table()
			ts[typ] = ts[other]
			for _, key := range someKeys(keyOf(other)) {
				given{m, ts, typ, it.addr, key, someVals(elemOf(other))[0], nil}.calls(t)
				maps.Get(m, ts, typ, b.addr, key, seed)
				maps.Put(m, ts, typ, b.addr, key, someVals(elemOf(other))[0], seed, []int{it.addr})
				maps.Delete(m, ts, typ, b.addr, key, seed)
			}
			given{m, table(), typ, b.addr, someKeys(keyOf(typ))[0], vals[0], nil}.calls(t)
		}
	}
}
