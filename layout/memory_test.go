package layout_test

import (
	"reflect"
	"slices"
	"testing"

	"heddle/api"
	"heddle/cells"
	"heddle/layout"
)

// copied answers a value in memory of its own.
func copied(v []api.Cell) []api.Cell {
	v = slices.Clone(v)
	for i := range v {
		v[i].Box = copied(v[i].Box)
	}
	return v
}

// roomy answers a copy of a value, all of whose lists have spare room with something in it.
func roomy(v []api.Cell) []api.Cell {
	if v == nil {
		return nil
	}
	c := append(slices.Clone(v), num(71, 72, 73)...)[:len(v)]
	for i := range c {
		c[i].Box = roomy(c[i].Box)
	}
	return c
}

// whole answers a copy of a value with the spare room of its lists.
func whole(v []api.Cell) []api.Cell {
	v = slices.Clone(v[:cap(v)])
	for i := range v {
		v[i].Box = whole(v[i].Box)
	}
	return v
}

// spoil gives all of a value, spare room too, other numbers.
func spoil(v []api.Cell) {
	v = v[:cap(v)]
	for i := range v {
		spoil(v[i].Box)
		v[i] = api.Cell{N: 0xDEAD, S: "spoilt", T: 5}
	}
}

// some answers a value with all kinds of parts, which names an object.
func some(p uint64) []api.Cell {
	return slices.Concat(num(1), text("a text"), num(5, p, 6), holding(link, slices.Concat(holding(aPair, pair(2, "in it")), holding(names, slices.Concat(num(p), text("deep"), num(p, 0))))),
		pair(1, "y"), pair(2, ""), num(p), holding(aPtr, num(p)))
}

// R4: what is handed in stays as it is, spare room included, and is not kept.
func TestArgumentsStay(t *testing.T) {
	m := build(t, 64, never)
	p := made(t, m, aPtr)
	addr := made(t, m, mixed)
	v := roomy(some(uint64(p)))
	ts := append(table(), api.Type{Kind: 99}, api.Type{Kind: 98})[:typeCount]
	for i := range ts {
		ts[i].Fields = append(ts[i].Fields, 55, 56)[:len(ts[i].Fields)]
	}
	roots := append([]int{addr, 0, p}, 61, 62, 63, 64, 65, 66, 67, 68, 69)[:3]
	wantWhole, wantRoots, wantTypes := whole(v), slices.Clone(roots[:cap(roots)]), wholeTypes(ts)
	w, e := layout.Save(m, ts, mixed, v, roots)
	if e != api.OK {
		t.Fatal(e)
	}
	words := append(slices.Clone(w), 81, 82)[:len(w)]
	wantWords := slices.Clone(words[:cap(words)])
	got, _ := layout.Load(m, ts, mixed, words)
	layout.Keep(m, ts, mixed, addr, v, roots)
	layout.Fetch(m, ts, mixed, addr)
	layout.Make(m, ts, mixed, roots)
	layout.Offset(ts, mixed, 3)
	seq, _ := layout.Named(ts, mixed, words)
	before := slices.Collect(seq)
	if !reflect.DeepEqual(whole(v), wantWhole) || !slices.Equal(roots[:cap(roots)], wantRoots) || !reflect.DeepEqual(wholeTypes(ts), wantTypes) || !slices.Equal(words[:cap(words)], wantWords) {
		t.Fatal("what was handed in has changed")
	}
	spoil(v)
	clear(roots[:cap(roots)])
	clear(words[:cap(words)])
	clear(ts[:cap(ts)])
	if !cells.Same(got, some(uint64(p))) || !slices.Equal(slices.Collect(seq), before) {
		t.Fatal("an answer has changed with what was handed in")
	}
	wantTold(t, m, mixed, some(uint64(p)), w)
	wantTold(t, m, mixed, some(uint64(p)), wordsAt(m, addr))
}

// wholeTypes answers a copy of a table with the spare room of its lists.
func wholeTypes(ts []api.Type) []api.Type {
	ts = slices.Clone(ts[:cap(ts)])
	for i := range ts {
		ts[i].Fields = slices.Clone(ts[i].Fields[:cap(ts[i].Fields)])
	}
	return ts
}

// R4: answers share nothing with one another, and no two lists of one answer do.
func TestAnswersAreNew(t *testing.T) {
	m := build(t, 64, never)
	p := uint64(made(t, m, aPtr))
	v := some(p)
	addr := made(t, m, mixed)
	wantKeep(t, m, mixed, addr, v, nil, api.OK)
	w := saved(t, m, mixed, v)
	for _, call := range []func() ([]api.Cell, api.Errno){
		func() ([]api.Cell, api.Errno) { return layout.Load(m, table(), mixed, w) },
		func() ([]api.Cell, api.Errno) { return layout.Fetch(m, table(), mixed, addr) },
	} {
		one, _ := call()
		other, _ := call()
		wantApart(t, one, one)
		again, _ := call()
		spoil(again)
		if third, _ := call(); !cells.Same(other, v) || !cells.Same(third, v) {
			t.Fatal("two answers share memory")
		}
	}
	one, _ := layout.Save(m, table(), mixed, v, nil)
	other, _ := layout.Save(m, table(), mixed, v, nil)
	kept := slices.Clone(other)
	for i := range one[:cap(one)] {
		one[:cap(one)][i] = 0xDEAD
	}
	if !slices.Equal(other, kept) {
		t.Fatal("two answers share memory")
	}
	wantTold(t, m, mixed, v, other)
}

// wantApart looks for lists within a value that share nothing, spare room included, with what else there is of it.
func wantApart(t *testing.T, all, part []api.Cell) {
	t.Helper()
	for i := range part {
		box := part[i].Box
		if cap(box) == 0 {
			continue
		}
		before, was := copied(all), slices.Clone(box[:cap(box)])
		for at := range was {
			box[:cap(box)][at] = api.Cell{N: 0xDEAD}
		}
		copy(box[:cap(box)], was)
		for at := len(box); at < cap(box); at++ {
			box[:cap(box)][at] = api.Cell{N: 0xDEAD}
		}
		if !cells.Same(all, before) {
			t.Fatal("the spare room of a box is another list's")
		}
		wantApart(t, all, box)
	}
}

// R4: calls that only look change nothing in the memory, in any phase.
func TestLookingChangesNothing(t *testing.T) {
	for phase := range 3 {
		m := build(t, 64, never)
		p := made(t, m, aPtr)
		addr := made(t, m, mixed)
		wantKeep(t, m, mixed, addr, some(uint64(p)), nil, api.OK)
		w := saved(t, m, names, num(uint64(p), 0, 0, 0))
		if phase > 0 {
			if e := m.Begin([]int{addr}); e != api.OK {
				t.Fatal(e)
			}
			m.Work(3)
		}
		if phase > 1 {
			toSweep(m)
		}
		before := look(m)
		wantFetch(t, m, mixed, addr, some(uint64(p)))
		wantLoad(t, m, names, w, num(uint64(p), 0, 0, 0))
		saved(t, m, names, num(uint64(p), 0, 0, 0), addr)
		wantSame(t, m, before)
	}
}
