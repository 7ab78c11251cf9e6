package layout_test

import (
	"math"
	"slices"
	"strings"
	"testing"

	"heddle/api"
	"heddle/cells"
	"heddle/layout"
)

// P16.2: as many words as the type has, no fewer and no more.
func TestLoadCount(t *testing.T) {
	m := build(t, 16, never)
	for typ := range typeCount {
		n := len(shapes[typ])
		for count := range n + 3 {
			words := make([]uint64, count)
			if count == n {
				wantLoad(t, m, typ, words, make([]api.Cell, len(leaves(typ))))
			} else {
				wantNoLoad(t, m, typ, words...)
			}
		}
		wantNoLoad(t, m, typ)
	}
}

// P16.2: numbers.
func TestLoadNumbers(t *testing.T) {
	m := build(t, 16, never)
	a, b := uint64(object(t, m, "p-", 7)), uint64(object(t, m, "-", strTag))
	for _, n := range []uint64{0, 1, 2, 3, 255, 256, a, a + 1, 1 << 31, 1 << 32, 1<<32 + 1, 1 << 63, math.MaxUint64} {
		wantLoad(t, m, anInt, []uint64{n}, num(n))
		wantLoad(t, m, aFloat, []uint64{n}, num(n))
		if n < 2 {
			wantLoad(t, m, aBool, []uint64{n}, num(n))
		} else {
			wantNoLoad(t, m, aBool, n)
		}
	}
	for _, typ := range []int{aPtr, toPair, aMap, anIter} {
		for _, n := range []uint64{0, a, b} {
			wantLoad(t, m, typ, []uint64{n}, num(n))
		}
		for _, n := range []uint64{1, 8, 255, a + 1, a + 8, b + 8, 768, api.MaxArena, api.MaxArena + a, 1<<31 + a, 1<<32 + a, 1<<63 + a, -a, math.MaxUint64} {
			wantNoLoad(t, m, typ, n)
		}
	}
}

// P16.2: what is told of a string: the tag, the number of words, no pointers, the length and the rest.
func TestLoadStrings(t *testing.T) {
	m := build(t, 512, never)
	one := uint64(object(t, m, "-", strTag, 0x636261))
	for _, n := range []uint64{3, 4, 7, 8} {
		wantLoad(t, m, aStr, []uint64{one, n}, text("abc\x00\x00\x00\x00\x00"[:n]))
	}
	// Behind two bytes stands a third, and beyond eight there is no word.
	for _, n := range []uint64{0, 1, 2, 9, 16, 4096, 4097, 1 << 32, 1<<32 + 3, 1<<63 + 3, math.MaxUint64} {
		wantNoLoad(t, m, aStr, one, n)
	}
	full := uint64(object(t, m, "-", strTag, math.MaxUint64))
	wantLoad(t, m, aStr, []uint64{full, 8}, text(strings.Repeat("\xff", 8)))
	for n := range uint64(8) {
		wantNoLoad(t, m, aStr, full, n)
	}
	top := uint64(object(t, m, "-", strTag, 1<<56))
	wantNoLoad(t, m, aStr, top, 7)
	two := uint64(object(t, m, "--", strTag))
	for n := range uint64(20) {
		if n < 9 || n > 16 {
			wantNoLoad(t, m, aStr, two, n)
		} else {
			wantLoad(t, m, aStr, []uint64{two, n}, text(strings.Repeat("\x00", int(n))))
		}
	}
	for _, form := range []string{"p", "p-", "-p", "pp"} {
		wantNoLoad(t, m, aStr, uint64(object(t, m, form, strTag)), uint64(8*len(form)))
	}
	for _, tag := range []int{0, aStr, strTag - 1, strTag + 1, 2 * strTag} {
		wantNoLoad(t, m, aStr, uint64(object(t, m, "-", tag, 0x636261)), 3)
	}
	for _, addr := range []uint64{0, 1, one + 1, one - 8, 1<<32 + one, 1<<63 + one, api.MaxArena, math.MaxUint64} {
		wantNoLoad(t, m, aStr, addr, 3)
		if addr != 0 {
			wantNoLoad(t, m, aStr, addr, 0)
		}
	}
	wantLoad(t, m, aStr, []uint64{0, 0}, num(0))
	largest := uint64(object(t, m, strings.Repeat("-", 512), strTag))
	wantLoad(t, m, aStr, []uint64{largest, 4096}, text(strings.Repeat("\x00", 4096)))
	wantLoad(t, m, aStr, []uint64{largest, 4089}, text(strings.Repeat("\x00", 4089)))
	wantNoLoad(t, m, aStr, uint64(object(t, m, strings.Repeat("-", 513), strTag)), 4097)
	wantNoLoad(t, m, aStr, uint64(object(t, m, strings.Repeat("-", 513), strTag)), 4104)
}

// P16.2: what is told of an interface: a type that it may hold, and an object of it.
func TestLoadBoxes(t *testing.T) {
	m := build(t, 512, never)
	for typ := range typeCount {
		box := uint64(object(t, m, shapes[typ], typ))
		own := uint64(typ + 1)
		if typ == anIface || typ == anIter {
			wantNoLoad(t, m, anIface, own, box)
			continue
		}
		wantLoad(t, m, anIface, []uint64{own, box}, holding(typ, make([]api.Cell, len(leaves(typ)))))
		for _, other := range []uint64{0, own - 1, own + 1, typeCount + 1, 1<<32 + own, 1<<63 + own, math.MaxUint64} {
			wantNoLoad(t, m, anIface, other, box)
		}
		for _, addr := range []uint64{0, 1, box + 1, box + 8, 1<<32 + box, 1<<63 + box, api.MaxArena, math.MaxUint64} {
			wantNoLoad(t, m, anIface, own, addr)
		}
		for _, tag := range []int{typ + 1, strTag, typeCount} {
			wantNoLoad(t, m, anIface, own, uint64(object(t, m, shapes[typ], tag)))
		}
		for _, form := range []string{shapes[typ] + "-", shapes[typ] + "p", "p-p", "ppp", strings.Map(swap, shapes[typ])} {
			wantNoLoad(t, m, anIface, own, uint64(object(t, m, form, typ)))
		}
	}
	wantLoad(t, m, anIface, []uint64{0, 0}, num(0))
	wantNoLoad(t, m, anIface, 0, 1)
}

// swap makes pointers of what is none, and the other way.
func swap(r rune) rune {
	if r == 'p' {
		return '-'
	}
	return 'p'
}

// P16.2: what lies in a box has to be sound as well, however deep.
func TestLoadInBoxes(t *testing.T) {
	m := build(t, 64, never)
	inner := object(t, m, "-", aBool, 1)
	outer := object(t, m, "-p-p", link, 0, 0, aBool+1, uint64(inner))
	words := []uint64{link + 1, uint64(outer)}
	v := holding(link, slices.Concat(num(0), holding(aBool, num(1))))
	wantLoad(t, m, anIface, words, v)
	put(t, m, inner, 2)
	wantNoLoad(t, m, anIface, words...)
	put(t, m, inner, 0)
	put(t, m, outer, 1)
	wantNoLoad(t, m, anIface, words...)
	put(t, m, outer, 0, uint64(inner))
	wantNoLoad(t, m, anIface, words...)
	put(t, m, outer, aBool+1)
	wantLoad(t, m, anIface, words, holding(link, slices.Concat(holding(aBool, num(0)), holding(aBool, num(0)))))
	str := object(t, m, "-", strTag, 'x')
	held := object(t, m, "-p-", aPair, 4, uint64(str), 1)
	wantLoad(t, m, anIface, []uint64{aPair + 1, uint64(held)}, holding(aPair, pair(4, "x")))
	for _, length := range []uint64{0, 9, 4097} {
		put(t, m, held, 4, uint64(str), length)
		wantNoLoad(t, m, anIface, aPair+1, uint64(held))
	}
}

// P16.2: each part of a value counts, the last one too.
func TestLoadParts(t *testing.T) {
	m := build(t, 64, never)
	v := slices.Concat(num(1), text("s"), num(5, 0, 6), holding(anInt, num(3)), pair(1, "y"), pair(2, "z"), num(0), holding(aBool, num(1)))
	good := saved(t, m, mixed, v)
	for at := range good {
		words := slices.Clone(good)
		words[at] += 4096
		_, _, ok := told(m, mixed, words)
		// The Int, the Float and the Ints of the pairs may be anything.
		if ok != slices.Contains([]int{3, 5, 8, 11}, at) {
			t.Fatalf("word %d: %t", at, ok)
		}
		if _, e := layout.Load(m, table(), mixed, words); (e == api.OK) != ok {
			t.Fatalf("word %d: Load %d, want sound %t", at, e, ok)
		}
	}
}

// P16.2: several may name one string, or one box, of which each has a copy.
func TestLoadShared(t *testing.T) {
	m := build(t, 64, never)
	str := uint64(object(t, m, "-", strTag, 'x'))
	box := uint64(object(t, m, "-p-", aPair, 9, str, 1))
	words := []uint64{aPair + 1, box, aPair + 1, box}
	v := slices.Concat(holding(aPair, pair(9, "x")), holding(aPair, pair(9, "x")))
	wantLoad(t, m, link, words, v)
	got, _ := layout.Load(m, table(), link, words)
	got[0].Box[0].N = 1
	if !cells.Same(got[1:], v[1:]) {
		t.Fatal("two boxes of one answer share memory")
	}
}

// P16.2: the size is at most MaxCells, boxes that are named more than once counted each time.
func TestLoadSize(t *testing.T) {
	m := build(t, 512, never)
	w := saved(t, m, single, chain(api.MaxCells))
	deep := object(t, m, "-p", single, w...)
	wantFetch(t, m, single, deep, chain(api.MaxCells))
	wantNoLoad(t, m, anIface, single+1, uint64(deep))
	outer := object(t, m, "-p", single, single+1, uint64(deep))
	wantNoFetch(t, m, single, outer, api.ErrForm)

	// Fifteen boxes of sixteen cells and the sixteen interfaces are 256 cells.
	box := uint64(object(t, m, shapes[wide], wide))
	words := slices.Repeat([]uint64{wide + 1, box}, 15)
	v := slices.Repeat(holding(wide, make([]api.Cell, 16)), 15)
	wantLoad(t, m, sixteen, append(slices.Clone(words), 0, 0), append(slices.Clone(v), api.Cell{}))
	wantNoLoad(t, m, sixteen, append(slices.Clone(words), anInt+1, uint64(object(t, m, "-", anInt)))...)
	wantNoLoad(t, m, sixteen, append(words, wide+1, box)...)

	// Each link names the next one twice.
	last := object(t, m, "-p-p", link)
	for range 60 {
		last = object(t, m, "-p-p", link, link+1, uint64(last), link+1, uint64(last))
	}
	wantNoLoad(t, m, anIface, link+1, uint64(last))
	wantNoFetch(t, m, link, last, api.ErrForm)
}

// P16.2: objects that name one another in a circle have no value.
func TestLoadCircle(t *testing.T) {
	m := build(t, 64, never)
	self := object(t, m, "-p", single)
	put(t, m, self, single+1, uint64(self))
	wantNoLoad(t, m, anIface, single+1, uint64(self))
	wantNoFetch(t, m, single, self, api.ErrForm)
	a, b := object(t, m, "-p-p", link), object(t, m, "-p", single)
	put(t, m, a, 0, 0, single+1, uint64(b))
	put(t, m, b, link+1, uint64(a))
	wantNoLoad(t, m, anIface, link+1, uint64(a))
	wantNoFetch(t, m, single, b, api.ErrForm)
	// A circle of pointers is none: what they name is not part of the value.
	p := object(t, m, "p", aPtr)
	put(t, m, p, uint64(p))
	wantFetch(t, m, aPtr, p, num(uint64(p)))
	wantLoad(t, m, anIface, []uint64{aPtr + 1, uint64(p)}, holding(aPtr, num(uint64(p))))
	// It is mended by what breaks the circle.
	put(t, m, b, 0, 0)
	wantFetch(t, m, link, a, slices.Concat(num(0), holding(single, num(0))))
}

// P16.2: strings and boxes that died are none.
func TestLoadDead(t *testing.T) {
	m := build(t, 16, never)
	str := saved(t, m, aStr, text("abc"))
	box := saved(t, m, anIface, holding(aPair, pair(1, "x")))
	if e := m.Begin(nil); e != api.OK {
		t.Fatal(e)
	}
	wantLoad(t, m, aStr, str, text("abc"))
	wantLoad(t, m, anIface, box, holding(aPair, pair(1, "x")))
	toSweep(m)
	wantNoLoad(t, m, aStr, str...)
	wantNoLoad(t, m, anIface, box...)
	toIdle(m)
	wantNoLoad(t, m, aStr, str...)
	wantNoLoad(t, m, anIface, box...)
}
