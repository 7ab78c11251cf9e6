package layout_test

import (
	"math"
	"slices"
	"strings"
	"testing"

	"heddle/api"
	"heddle/layout"
)

// P16.1, example 1: one object of one word.
func TestExampleStr(t *testing.T) {
	m := build(t, 16, never)
	words := saved(t, m, aStr, text("abc"))
	if len(words) != 2 || words[1] != 3 {
		t.Fatalf("the words: %v", words)
	}
	wantObject(t, m, int(words[0]), 1048576, "-", 0x636261)
	wantLive(t, m, int(words[0]))
	wantNoLoad(t, m, aStr, 0, 1)
}

// P16.1, example 2: two objects, the box and the string.
func TestExampleIface(t *testing.T) {
	m := build(t, 16, never)
	words := saved(t, m, anIface, holding(aPair, pair(5, "x")))
	if len(words) != 2 || words[0] != aPair+1 {
		t.Fatalf("the words: %v", words)
	}
	box := int(words[1])
	str, _ := m.Get(box, 1)
	wantObject(t, m, box, aPair, "-p-", 5, str, 1)
	wantObject(t, m, int(str), strTag, "-", 'x')
	if n := len(live(m)); n != 2 {
		t.Fatalf("%d objects", n)
	}
}

// P16.1: what has no object of its own is its number.
func TestSaveNumbers(t *testing.T) {
	m := build(t, 4, never)
	a := uint64(object(t, m, "p", 7))
	before := look(m)
	for typ, list := range map[int][]uint64{
		aBool:  {0, 1},
		anInt:  {0, 1, 255, 1 << 31, 1 << 63, math.MaxUint64, a, a + 1},
		aFloat: {0, 1 << 63, math.Float64bits(1), 0x7ff8000000000001, math.MaxUint64},
		aPtr:   {0, a},
		toPair: {0, a},
		aMap:   {0, a},
		anIter: {0, a},
	} {
		for _, n := range list {
			if words := saved(t, m, typ, num(n)); !slices.Equal(words, []uint64{n}) {
				t.Fatalf("Save(%d, %d) = %v", typ, n, words)
			}
		}
	}
	for typ := range typeCount {
		zero := make([]api.Cell, len(leaves(typ)))
		if words := saved(t, m, typ, zero); !slices.Equal(words, make([]uint64, len(shapes[typ]))) {
			t.Fatalf("Save(%d, zero) = %v", typ, words)
		}
	}
	wantSame(t, m, before)
}

// P16.1: the bytes of strings, the lowest first, in as few words as hold them.
func TestSaveStrings(t *testing.T) {
	all := make([]byte, 256)
	for i := range all {
		all[i] = byte(255 - i)
	}
	lengths := []int{31, 32, 33, 63, 64, 65, 127, 128, 129, 255, 256, 257, 511, 512, 513, 4087, 4088, 4089, 4095, 4096}
	for n := range 26 {
		lengths = append(lengths, n)
	}
	for _, n := range lengths {
		s := strings.Repeat(string(all), 16)[:n]
		m := build(t, 32, never)
		words := saved(t, m, aStr, text(s))
		if n == 0 {
			wantLive(t, m)
			continue
		}
		want := make([]uint64, (n+7)/8)
		for i := range n {
			want[i/8] += uint64(s[i]) * uint64(math.Pow(256, float64(i%8)))
		}
		if words[1] != uint64(n) {
			t.Fatalf("%d bytes: %v", n, words)
		}
		wantObject(t, m, int(words[0]), strTag, strings.Repeat("-", len(want)), want...)
		wantLive(t, m, int(words[0]))
	}
}

// P16.1: bytes of any kind, at the end too, where they could be taken for what fills the word up.
func TestSaveBytes(t *testing.T) {
	m := build(t, 32, never)
	for _, s := range []string{"\x00", "\x00\x00", "a\x00", "\x00a", "\xff", "\xff\x00\xff", "'\\'", "é", "\x80\x81", strings.Repeat("\x00", 8), strings.Repeat("\x00", 9), "1234567\x00", "12345678\x00", strings.Repeat("\xff", 16)} {
		saved(t, m, aStr, text(s))
	}
}

// P16.1: values of many parts have their words one behind the other.
func TestSaveParts(t *testing.T) {
	m := build(t, 32, never)
	p, q := uint64(object(t, m, "-", 99)), uint64(object(t, m, "p", 98))
	w := saved(t, m, pairs, slices.Concat(pair(7, "left"), pair(9, "right")))
	if w[0] != 7 || w[2] != 4 || w[3] != 9 || w[5] != 5 || w[1] == w[4] {
		t.Fatalf("pairs: %v", w)
	}
	v := slices.Concat(num(1), text("s"), num(math.MaxUint64, p, 1<<63), holding(anInt, num(3)), pair(1, ""), pair(2, "z"), num(q), holding(aPtr, num(q)))
	w = saved(t, m, mixed, v)
	for at, want := range map[int]uint64{0: 1, 2: 1, 3: math.MaxUint64, 4: p, 5: 1 << 63, 6: anInt + 1, 8: 1, 9: 0, 10: 0, 11: 2, 13: 1, 14: q, 15: aPtr + 1} {
		if w[at] != want {
			t.Fatalf("word %d of %v, want %d", at, w, want)
		}
	}
	wantObject(t, m, int(w[7]), anInt, "-", 3)
	wantObject(t, m, int(w[16]), aPtr, "p", q)
	// The same text twice is two objects, and so is the same box.
	w = saved(t, m, texts, text(slices.Repeat([]string{"same"}, 16)...))
	saved(t, m, link, slices.Concat(holding(aStr, text("same")), holding(aStr, text("same"))))
}

// P16.1: each type that an interface may hold, in a box of its own.
func TestSaveBoxes(t *testing.T) {
	for typ := range typeCount {
		if typ == anIface || typ == anIter {
			continue
		}
		m := build(t, 64, never)
		zero := make([]api.Cell, len(leaves(typ)))
		w := saved(t, m, anIface, holding(typ, zero))
		if w[0] != uint64(typ+1) {
			t.Fatalf("a box of %d: %v", typ, w)
		}
		wantObject(t, m, int(w[1]), typ, shapes[typ], make([]uint64, len(shapes[typ]))...)
		wantLive(t, m, int(w[1]))
	}
}

// P16.1, P16.2: a value of MaxCells cells, deep or wide.
func TestSaveLargest(t *testing.T) {
	m := build(t, 1024, never)
	saved(t, m, anIface, chain(api.MaxCells))
	broad := make([]api.Cell, 0, 16)
	for range 15 {
		broad = append(broad, holding(texts, text(slices.Repeat([]string{"text"}, 16)...))[0])
	}
	saved(t, m, sixteen, append(broad, api.Cell{}))
	wantNoSave(t, m, anIface, chain(api.MaxCells+1), nil, api.ErrForm)
}

// P16.1: ErrNone of a number at a pointer, in boxes too, and of roots, whether or not anything is allocated.
func TestSaveNone(t *testing.T) {
	m := build(t, 16, never)
	a := object(t, m, "p-", 7)
	gone := object(t, m, "-", 7)
	if e := m.Collect([]int{a}); e != api.OK {
		t.Fatal(e)
	}
	before := look(m)
	for _, n := range []int{1, 8, 255, a - 8, a + 1, a + 8, gone, 512, api.MaxArena, math.MaxInt32} {
		bad := num(uint64(n))
		for _, typ := range []int{aPtr, toPair, aMap, anIter} {
			wantNoSave(t, m, typ, bad, nil, api.ErrNone)
		}
		for _, typ := range []int{aPtr, toPair, aMap} {
			wantNoSave(t, m, anIface, holding(typ, bad), nil, api.ErrNone)
			wantNoSave(t, m, anIface, holding(single, holding(typ, bad)), nil, api.ErrNone)
			wantNoSave(t, m, link, slices.Concat(holding(aStr, text("x")), holding(typ, bad)), nil, api.ErrNone)
		}
		wantNoSave(t, m, names, slices.Concat(num(uint64(a)), text("x"), bad, num(0)), nil, api.ErrNone)
		wantSame(t, m, before)
	}
	for _, root := range []int{math.MinInt, -256, -1, 1, a + 1, a + 8, gone, 512, 1<<32 + a, math.MaxInt} {
		for _, roots := range [][]int{{root}, {a, 0, root}, {root, a}} {
			wantNoSave(t, m, anInt, num(5), roots, api.ErrNone)
			wantNoSave(t, m, aStr, text("abc"), roots, api.ErrNone)
			if addr, e := layout.Make(m, table(), anInt, roots); addr != 0 || e != api.ErrNone {
				t.Fatalf("Make with roots %v = %d, %d", roots, addr, e)
			}
			wantSame(t, m, before)
		}
	}
	// Numbers that are no pointers name nothing.
	saved(t, m, anInt, num(uint64(gone)), a, 0, a)
	saved(t, m, aFloat, num(uint64(gone)))
	wantSame(t, m, before)
}

// P16.1: dead objects that were not swept are none either.
func TestSaveDead(t *testing.T) {
	m := build(t, 16, never)
	a, dead := object(t, m, "p-", 7), object(t, m, "-", 7)
	if e := m.Begin([]int{a}); e != api.OK {
		t.Fatal(e)
	}
	saved(t, m, aMap, num(uint64(dead)))
	toSweep(m)
	before := look(m)
	wantNoSave(t, m, aMap, num(uint64(dead)), nil, api.ErrNone)
	wantNoSave(t, m, aStr, text("x"), []int{dead}, api.ErrNone)
	wantNoLoad(t, m, aMap, uint64(dead))
	wantNoFetch(t, m, anInt, dead, api.ErrNone)
	wantKeep(t, m, anInt, dead, num(1), nil, api.ErrNone)
	wantSame(t, m, before)
}

// page is a text that takes a page of its own.
var page = strings.Repeat("page", 64)

// P16.1: what has come so far is handed to the next Alloc: here each asks for a whole cycle, since half of the memory is garbage.
func TestSaveHoldsWhatCame(t *testing.T) {
	for _, v := range [][]api.Cell{
		slices.Concat(num(0), text(page), num(0), holding(aStr, text(page))),
		slices.Concat(num(0), num(0, 0), holding(texts, text(slices.Concat([]string{page, page, "more"}, make([]string, 13))...))),
		slices.Concat(num(0), text(page), num(0), holding(link, slices.Concat(holding(wide, num(make([]uint64, 16)...)), holding(aPair, pair(1, page))))),
	} {
		for free := range 3 {
			m := build(t, 10, never)
			// Single words fill pages with what nobody holds, but for some pages that are left.
			for range (10 - free) * 32 {
				object(t, m, "-", 5)
			}
			saved(t, m, names, v)
			if m.Cycles() == 0 {
				t.Fatalf("%d pages free: no cycle", free)
			}
		}
	}
}

// P16.1: what a value names outlives the cycles that its objects ask for, and so do the roots and what all these reach.
func TestSaveHoldsNames(t *testing.T) {
	for _, boxed := range []bool{false, true} {
		m := build(t, 3, never)
		a, b, c, d := object(t, m, "p", 1), object(t, m, "p", 2), object(t, m, "p", 3), object(t, m, "p", 4)
		e := object(t, m, "p", 5)
		put(t, m, a, uint64(b))
		put(t, m, c, uint64(d))
		for range 64 - 5 {
			object(t, m, "-", 6)
		}
		v := slices.Concat(num(uint64(a)), text(page), num(uint64(c)), num(0))
		if boxed {
			v = slices.Concat(num(0), text(page), num(0), holding(link, slices.Concat(holding(aPtr, num(uint64(a))), holding(aMap, num(uint64(c))))))
		}
		saved(t, m, names, v, 0, e)
		for _, addr := range []int{a, b, c, d, e} {
			if _, fault := m.Get(addr, 0); fault != api.OK {
				t.Fatalf("%d is gone", addr)
			}
		}
		saved(t, m, names, v, 0, e)
	}
}

// P16.1: in the phase Mark the cycle that runs already is outlived too.
func TestSaveInMark(t *testing.T) {
	m := build(t, 16, never)
	a, b, c, d := object(t, m, "p", 1), object(t, m, "-", 2), object(t, m, "-", 3), object(t, m, "-", 4)
	put(t, m, a, uint64(b))
	if e := m.Begin(nil); e != api.OK {
		t.Fatal(e)
	}
	w := saved(t, m, names, slices.Concat(num(uint64(a)), text("x"), num(0), holding(toPair, num(uint64(c)))))
	toIdle(m)
	wantLoad(t, m, names, w, slices.Concat(num(uint64(a)), text("x"), num(0), holding(toPair, num(uint64(c)))))
	for addr, want := range map[int]api.Errno{a: api.OK, b: api.OK, c: api.OK, d: api.ErrNone} {
		if _, e := m.Get(addr, 0); e != want {
			t.Fatalf("the object at %d: %d, want %d", addr, e, want)
		}
	}
}

// P16.1: ErrFull, where memory does not suffice; what the roots reach is as before.
func TestSaveFull(t *testing.T) {
	none := build(t, 0, never)
	saved(t, none, anInt, num(5))
	saved(t, none, texts, text(make([]string, 16)...))
	saved(t, none, anIface, num(0))
	wantNoSave(t, none, aStr, text("x"), nil, api.ErrFull)
	wantNoSave(t, none, anIface, holding(anInt, num(0)), nil, api.ErrFull)
	wantNoSave(t, none, anIface, holding(aPtr, num(8)), nil, api.ErrNone)

	m := build(t, 17, never)
	a := object(t, m, "p-", 7, 0, 5)
	w := saved(t, m, aStr, text(strings.Repeat("x", api.MaxStr)), a)
	wantNoSave(t, m, aStr, text(page), []int{a, int(w[0])}, api.ErrFull)
	wantNoSave(t, m, anIface, holding(aStr, text("x")), []int{a, int(w[0])}, api.ErrFull)
	wantNoSave(t, m, names, slices.Concat(num(uint64(a)), text(page), num(w[0]), num(0)), nil, api.ErrFull)
	wantObject(t, m, a, 7, "p-", 0, 5)
	wantTold(t, m, aStr, text(strings.Repeat("x", api.MaxStr)), w)
	wantLive(t, m, a, int(w[0]))
	// Two words fit beside the one object that there is.
	saved(t, m, anIface, holding(aStr, num(0)), a, int(w[0]))
	// Without roots all else goes.
	saved(t, m, aStr, text(page))
}

// P16.1: a value of which the first objects find room and a later one does not. What came is held by nobody.
func TestSaveFullHalfWay(t *testing.T) {
	m := build(t, 2, never)
	a := object(t, m, "p", 7)
	v := text(slices.Concat([]string{page, page}, make([]string, 14))...)
	wantNoSave(t, m, texts, v, []int{a}, api.ErrFull)
	if e := m.Collect([]int{a}); e != api.OK {
		t.Fatal(e)
	}
	wantLive(t, m, a)
	wantObject(t, m, a, 7, "p", 0)
	saved(t, m, aStr, text(page), a)
}
