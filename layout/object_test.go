package layout_test

import (
	"math"
	"slices"
	"strings"
	"testing"

	"heddle/api"
	"heddle/layout"
)

// P16.3: a new object of each type, all of whose words are 0, and the zero value in it.
func TestMake(t *testing.T) {
	m := build(t, 64, never)
	// What lay there before is not seen.
	for range 100 {
		object(t, m, "------", 5, 1, 2, 3, 4, 5, 6)
	}
	if e := m.Collect(nil); e != api.OK {
		t.Fatal(e)
	}
	var all []int
	for typ := range typeCount {
		if typ == anIter {
			before := look(m)
			if addr, e := layout.Make(m, table(), typ, nil); addr != 0 || e != api.ErrKind {
				t.Fatalf("Make of an iterator = %d, %d", addr, e)
			}
			wantSame(t, m, before)
			continue
		}
		addr := made(t, m, typ)
		wantObject(t, m, addr, typ, shapes[typ], make([]uint64, len(shapes[typ]))...)
		wantFetch(t, m, typ, addr, make([]api.Cell, len(leaves(typ))))
		all = append(all, addr)
	}
	slices.Sort(all)
	wantLive(t, m, all...)
}

// P16.3: what the roots reach outlives the cycle that Make asks for; where that does not make room, it is ErrFull.
func TestMakeRoots(t *testing.T) {
	m := build(t, 1, never)
	a := object(t, m, "p", 7)
	b := object(t, m, "-", 8, 5)
	put(t, m, a, uint64(b))
	for range 30 {
		object(t, m, "-", 9)
	}
	c := made(t, m, anInt, 0, a)
	wantLive(t, m, a, b, c)
	if addr, e := layout.Make(m, table(), aPair, []int{a}); addr != 0 || e != api.ErrFull {
		t.Fatalf("Make = %d, %d", addr, e)
	}
	// The cycle has run, so that what nobody holds is gone.
	wantLive(t, m, a, b)
	none := build(t, 0, never)
	if addr, e := layout.Make(none, table(), anInt, nil); addr != 0 || e != api.ErrFull {
		t.Fatalf("Make = %d, %d", addr, e)
	}
	if addr, e := layout.Make(none, table(), anInt, []int{256}); addr != 0 || e != api.ErrNone {
		t.Fatalf("Make = %d, %d", addr, e)
	}
	if addr, e := layout.Make(none, table(), anIter, []int{256}); addr != 0 || e != api.ErrKind {
		t.Fatalf("Make = %d, %d", addr, e)
	}
}

// P16.3: Fetch answers what Keep put in, for each type.
func TestFetch(t *testing.T) {
	m := build(t, 64, never)
	p := uint64(made(t, m, aPtr))
	for typ, v := range map[int][]api.Cell{
		anInt:   num(math.MaxUint64),
		aStr:    text("a longer text"),
		aPair:   pair(5, "x"),
		aPtr:    num(p),
		aMap:    num(p),
		pairs:   slices.Concat(pair(1, "a"), pair(2, "b")),
		anIface: holding(aPair, pair(7, "y")),
		aFloat:  num(1 << 63),
		aBool:   num(1),
		toPair:  num(p),
		link:    slices.Concat(holding(aStr, text("l")), holding(link, slices.Concat(num(0), holding(aPtr, num(p))))),
		names:   slices.Concat(num(p), text("n"), num(p), holding(aMap, num(p))),
	} {
		addr := made(t, m, typ)
		wantKeep(t, m, typ, addr, v, nil, api.OK)
		wantFetch(t, m, typ, addr, v)
		wantTold(t, m, typ, v, wordsAt(m, addr))
		wantKeep(t, m, typ, addr, make([]api.Cell, len(leaves(typ))), nil, api.OK)
		wantObject(t, m, addr, typ, shapes[typ], make([]uint64, len(shapes[typ]))...)
	}
	// An object of an iterator's type, though Make makes none.
	it := object(t, m, "p", anIter, p)
	wantFetch(t, m, anIter, it, num(p))
	wantKeep(t, m, anIter, it, num(0), nil, api.OK)
	wantFetch(t, m, anIter, it, num(0))
}

// P16.3, P16.4: which objects are of a type: by the tag, the words and the pointers.
func TestObjectsOfType(t *testing.T) {
	m := build(t, 512, never)
	for typ := range typeCount {
		zero := make([]api.Cell, len(leaves(typ)))
		none := func(addr int, want api.Errno) {
			t.Helper()
			before := look(m)
			wantNoFetch(t, m, typ, addr, want)
			wantKeep(t, m, typ, addr, zero, nil, want)
			wantSame(t, m, before)
		}
		own := object(t, m, shapes[typ], typ)
		wantFetch(t, m, typ, own, zero)
		none(0, api.ErrNil)
		for _, addr := range []int{math.MinInt, -own, -1, 1, 8, 255, own + 1, own + 4, 1<<32 + own, api.MaxArena, math.MaxInt} {
			none(addr, api.ErrNone)
		}
		for _, tag := range []int{typ + 1, typ + 64, strTag, typ + strTag, math.MaxInt32} {
			none(object(t, m, shapes[typ], tag), api.ErrKind)
		}
		for _, form := range []string{shapes[typ] + "-", shapes[typ] + "p", "ppp", strings.Map(swap, shapes[typ])} {
			none(object(t, m, form, typ), api.ErrKind)
		}
		if n := len(shapes[typ]); n > 1 {
			none(object(t, m, shapes[typ][1:], typ), api.ErrKind)
			none(object(t, m, shapes[typ][:n-1], typ), api.ErrKind)
		}
	}
}

// P16.3: an object of the type whose words are not sound is ErrForm, but Keep mends it.
func TestFetchUnsound(t *testing.T) {
	m := build(t, 64, never)
	for _, one := range []struct {
		typ   int
		words []uint64
		v     []api.Cell
	}{
		{aBool, []uint64{2}, num(1)},
		{aStr, []uint64{0, 1}, text("x")},
		{aPair, []uint64{0, 0, math.MaxUint64}, pair(1, "y")},
		{anIface, []uint64{typeCount + 1, 0}, holding(anInt, num(3))},
		{single, []uint64{anIface + 1, 0}, num(0)},
	} {
		addr := made(t, m, one.typ)
		put(t, m, addr, one.words...)
		wantNoFetch(t, m, one.typ, addr, api.ErrForm)
		wantKeep(t, m, one.typ, addr, one.v, nil, api.OK)
		wantFetch(t, m, one.typ, addr, one.v)
	}
	// Of another type's object it is not asked what its words are.
	wantNoFetch(t, m, aFloat, object(t, m, "-", aBool, 2), api.ErrKind)
	wantNoFetch(t, m, aBool, object(t, m, "-", aFloat, 2), api.ErrKind)
}

// P16.4: the object itself counts among the roots, and so does all that it names till the new words stand there.
func TestKeepHolds(t *testing.T) {
	m := build(t, 3, never)
	addr, other := made(t, m, names), made(t, m, names)
	wantKeep(t, m, names, addr, slices.Concat(num(uint64(other)), text("old"), num(0, 0)), nil, api.OK)
	old, _ := m.Get(addr, 1)
	for m.Fits(1) {
		object(t, m, "-", 5)
	}
	v := slices.Concat(num(uint64(addr)), text(page), num(0, 0))
	wantKeep(t, m, names, addr, v, nil, api.OK)
	if m.Cycles() == 0 {
		t.Fatal("no cycle")
	}
	wantFetch(t, m, names, addr, v)
	str, _ := m.Get(addr, 1)
	wantLive(t, m, addr, other, int(old), int(str))
	// The old text goes with the next cycle.
	if e := m.Collect([]int{addr}); e != api.OK {
		t.Fatal(e)
	}
	wantLive(t, m, addr, int(str))
	wantFetch(t, m, names, addr, v)
}

// P16.4: the roots and what the value names outlive the cycle too.
func TestKeepHoldsRoots(t *testing.T) {
	m := build(t, 4, never)
	addr := made(t, m, names)
	a, b, c, d := object(t, m, "--", 1), object(t, m, "--", 2), object(t, m, "--", 3), object(t, m, "--", 4)
	for m.Fits(1) {
		object(t, m, "-", 5)
	}
	v := slices.Concat(num(uint64(a)), text(page), num(0), holding(aMap, num(uint64(b))))
	wantKeep(t, m, names, addr, v, []int{0, c}, api.OK)
	wantFetch(t, m, names, addr, v)
	for one, want := range map[int]api.Errno{a: api.OK, b: api.OK, c: api.OK, d: api.ErrNone} {
		if _, e := m.Get(one, 0); e != want {
			t.Fatalf("the object at %d: %d, want %d", one, e, want)
		}
	}
}

// P16.4: in the phase Mark, what is kept outlives the cycle that runs.
func TestKeepInMark(t *testing.T) {
	for work := range 12 {
		m := build(t, 16, never)
		addr, a := made(t, m, names), object(t, m, "-", 1)
		if e := m.Begin([]int{addr}); e != api.OK {
			t.Fatal(e)
		}
		if m.Work(work); m.Phase() != api.Mark {
			break
		}
		v := slices.Concat(num(uint64(a)), text("x"), num(0), holding(aStr, text("y")))
		wantKeep(t, m, names, addr, v, nil, api.OK)
		toIdle(m)
		wantFetch(t, m, names, addr, v)
		if e := m.Collect([]int{addr}); e != api.OK {
			t.Fatal(e)
		}
		wantFetch(t, m, names, addr, v)
	}
}

// P16.4: beside an error the object is as before.
func TestKeepFull(t *testing.T) {
	m := build(t, 3, never)
	addr := made(t, m, names)
	v := slices.Concat(num(uint64(addr)), text("before"), num(0, 0))
	wantKeep(t, m, names, addr, v, nil, api.OK)
	words := wordsAt(m, addr)
	for _, fault := range []struct {
		v     []api.Cell
		roots []int
		want  api.Errno
	}{
		{slices.Concat(num(0), text(page), num(0), holding(aStr, text(page))), nil, api.ErrFull},
		{slices.Concat(num(0), text("x"), num(0), holding(aStr, text(page+page))), nil, api.ErrFull},
		{slices.Concat(num(8), text("x"), num(0, 0)), nil, api.ErrNone},
		{slices.Concat(num(0), text("x"), num(0), holding(aPtr, num(8))), nil, api.ErrNone},
		{slices.Concat(num(0), text("x"), num(0, 0)), []int{8}, api.ErrNone},
		{num(0, 0, 0, 0), []int{8}, api.ErrNone},
		{num(0, 1, 0, 0), nil, api.ErrForm},
		{num(0, 0, 0), nil, api.ErrForm},
	} {
		wantKeep(t, m, names, addr, fault.v, fault.roots, fault.want)
		if got := wordsAt(m, addr); !slices.Equal(got, words) {
			t.Fatalf("the words are %d, want %d", got, words)
		}
		wantFetch(t, m, names, addr, v)
	}
	if e := m.Collect([]int{addr}); e != api.OK {
		t.Fatal(e)
	}
	wantFetch(t, m, names, addr, v)
	// What has no string and no box asks for no room.
	for m.Fits(1) {
		object(t, m, "-", 5)
	}
	wantKeep(t, m, names, addr, num(uint64(addr), 0, uint64(addr), 0), nil, api.OK)
	wantFetch(t, m, names, addr, num(uint64(addr), 0, uint64(addr), 0))
}
