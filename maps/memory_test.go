package maps_test

import (
	"reflect"
	"slices"
	"testing"

	"heddle/api"
	"heddle/cells"
	"heddle/maps"
)

// copied answers a value in memory of its own.
func copied(v []api.Cell) []api.Cell {
	v = slices.Clone(v)
	for i := range v {
		v[i].Box = copied(v[i].Box)
	}
	return v
}

// roomy answers a copy of a value, all of whose lists have spare room with something in it.
func roomy(v []api.Cell) []api.Cell {
	if v == nil {
		return nil
	}
	c := append(slices.Clone(v), num(71, 72, 73)...)[:len(v)]
	for i := range c {
		c[i].Box = roomy(c[i].Box)
	}
	return c
}

// whole answers a copy of a value with the spare room of its lists.
func whole(v []api.Cell) []api.Cell {
	v = slices.Clone(v[:cap(v)])
	for i := range v {
		v[i].Box = whole(v[i].Box)
	}
	return v
}

// wholeTypes answers a copy of a table with the spare room of its lists.
func wholeTypes(ts []api.Type) []api.Type {
	ts = slices.Clone(ts[:cap(ts)])
	for i := range ts {
		ts[i].Fields = slices.Clone(ts[i].Fields[:cap(ts[i].Fields)])
	}
	return ts
}

// spoil gives all of a value, spare room too, other numbers.
func spoil(v []api.Cell) {
	v = v[:cap(v)]
	for i := range v {
		spoil(v[i].Box)
		v[i] = api.Cell{N: 0xDEAD, S: "spoilt", T: 5}
	}
}

// some answers a key and a value of many parts.
func some() (key, val []api.Cell) {
	key = filled(text("a key", "", "of texts")...)
	val = filled(holding(aPair, pair(5, "in a box"))[0], holding(single, holding(floats, num(nan, minus)))[0], api.Cell{}, holding(texts, filled(text("x")...))[0])
	return key, val
}

// R4: what is handed in stays as it is, spare room included, and is not kept.
func TestArgumentsStay(t *testing.T) {
	m := build(t, 200, never)
	first, second := some()
	key, val := roomy(first), roomy(second)
	ts := append(table(), api.Type{Kind: 99}, api.Type{Kind: 98})[:typeCount]
	for i := range ts {
		ts[i].Fields = append(ts[i].Fields, 55, 56)[:len(ts[i].Fields)]
	}
	held := object(t, m, 1)
	roots := append([]int{held, 0}, 61, 62, 63, 64, 65, 66, 67, 68, 69)[:2]
	wantKey, wantVal, wantRoots, wantTypes := whole(key), whole(val), slices.Clone(roots[:cap(roots)]), wholeTypes(ts)
	addr, e := maps.Make(m, ts, wideMap, roots)
	if e != api.OK {
		t.Fatal(e)
	}
	b := &book{t: t, m: m, typ: wideMap, addr: addr, seed: seed}
	for range 2 {
		if n, e := maps.Put(m, ts, wideMap, addr, key, val, seed, roots); n != 0 || e != api.OK {
			t.Fatalf("Put: %d, %d", n, e)
		}
	}
	it, _ := maps.Iter(m, ts, wideMap, addr, 1, roots)
	maps.Get(m, ts, wideMap, addr, key, seed)
	maps.Len(m, ts, wideMap, addr)
	maps.Delete(m, ts, wideMap, addr, roomy(filled()), seed)
	if !reflect.DeepEqual(whole(key), wantKey) || !reflect.DeepEqual(whole(val), wantVal) || !slices.Equal(roots[:cap(roots)], wantRoots) || !reflect.DeepEqual(wholeTypes(ts), wantTypes) {
		t.Fatal("what was handed in has changed")
	}
	spoil(key)
	spoil(val)
	clear(roots[:cap(roots)])
	clear(ts[:cap(ts)])
	what, self := told(texts, first)
	b.list = []entry{{0, first, second, what, self}}
	b.check()
	if n, k, v, e := maps.Next(m, table(), wideMap, it); n != 0 || !cells.Same(k, first) || !cells.Same(v, second) || e != api.OK {
		t.Fatalf("Next: %d, %v, %v, %d", n, k, v, e)
	}
}

// R4: answers share nothing with one another, and no two lists of one answer do.
func TestAnswersAreNew(t *testing.T) {
	first, second := some()
	b := made(t, build(t, 200, never), wideMap)
	b.put(first, second)
	get := func() []api.Cell {
		v, _, _ := maps.Get(b.m, table(), wideMap, b.addr, first, seed)
		return v
	}
	zero := func() []api.Cell {
		v, _, _ := maps.Get(b.m, table(), wideMap, 0, first, seed)
		return v
	}
	next := func(part int) func() []api.Cell {
		return func() []api.Cell {
			_, k, v, _ := maps.Next(b.m, table(), wideMap, b.iter(1).addr)
			// Neither list may be written through the other one.
			list := [][]api.Cell{k, v}
			kept := copied(list[part])
			spoil(list[1-part])
			if !cells.Same(list[part], kept) {
				t.Fatal("the key and the value share memory")
			}
			return list[part]
		}
	}
	for n, call := range []func() []api.Cell{get, zero, next(0), next(1)} {
		one := call()
		want := copied(one)
		other := call()
		spoil(one)
		if third := call(); !cells.Same(other, want) || !cells.Same(third, want) {
			t.Fatalf("call %d: two answers share memory", n)
		}
	}
	b.check()
}

// R3, R4: calls that only look, and those that find nothing to do, change nothing in the memory, in any phase.
func TestLookingChangesNothing(t *testing.T) {
	for phase := range 3 {
		m := build(t, 200, never)
		b := ints(t, m, 30)
		it := b.iter(4)
		for range 10 {
			it.step()
		}
		empty := b.iter(1)
		empty.rest()
		if phase > 0 {
			if e := m.Begin([]int{it.addr, empty.addr}); e != api.OK {
				t.Fatal(e)
			}
			m.Work(3)
		}
		if phase > 1 {
			toSweep(m)
		}
		before := look(m)
		b.check()
		b.get(num(99))
		b.remove(num(99))
		empty.step()
		maps.Clear(m, table(), intMap, 0)
		wantSame(t, m, before)
		it.rest()
	}
}

// P17.3: Clear of a map without entries, and what is there behind it.
func TestClearEmpty(t *testing.T) {
	b := ints(t, build(t, 64, never), 0)
	before := look(b.m)
	b.clear()
	wantSame(t, b.m, before)
	b.put(num(1), num(1))
	b.remove(num(1))
	b.clear()
	b.put(num(1), num(1))
	b.check()
}
