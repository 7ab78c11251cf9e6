package equal_test

import (
	"math"
	"slices"
	"strings"
	"testing"

	"heddle/api"
)

// P10.1, P10.2, P10.3: the chapter's first example.
func TestFirstExample(t *testing.T) {
	wantEqual(t, anIface, empty(aMap), empty(aMap), false, api.ErrHash)
	wantEqual(t, anIface, holding(aMap, num(1)), holding(aMap, num(2)), false, api.ErrHash)
	wantEqual(t, anIface, empty(aMap), empty(anInt), false, api.OK)
	v, w := mark(1, empty(aMap)), mark(2, empty(aMap))
	wantEqual(t, marked, v, w, false, api.OK)
	wantEqual(t, marked, v, v, false, api.ErrHash)
	for _, one := range [][]api.Cell{v, w} {
		wantNoHash(t, marked, one, api.ErrHash)
		wantSelf(t, marked, one, false, api.ErrHash)
	}
}

// P10.1, P10.2, P10.3: the chapter's second example.
func TestSecondExample(t *testing.T) {
	wantEqual(t, aFloat, num(0), num(negative), true, api.OK)
	for _, seed := range ends() {
		if x, y := hash(t, aFloat, num(0), seed, 1), hash(t, aFloat, num(negative), seed, 2); x != y {
			t.Errorf("hashes of 0 and -0: %d, %d", x, y)
		}
	}
	wantEqual(t, aFloat, num(nan), num(nan), false, api.OK)
	wantSelf(t, aFloat, num(nan), false, api.OK)
}

// P10.1, P10.3: Bool, Int and Ptr by their numbers, up to the least and the greatest; floats' bits mean nothing there.
func TestNumbers(t *testing.T) {
	wantEach(t, aBool, num(0), num(1))
	wantEach(t, anInt, num(0), num(1), num(2), num(1<<31), num(1<<32), num(1<<53), num(1<<53+1), num(math.MaxInt64), num(1<<63), num(1<<63+1), num(math.MaxUint64-1), num(math.MaxUint64), num(nan), num(infinity))
	for _, i := range []int{aPtr, toMap, toMixed} {
		wantEach(t, i, num(0), num(1), num(2), num(256), num(1<<30), num(1<<31-2), num(1<<31-1))
	}
}

// P10.1, P10.3: floats as floats.
func TestFloats(t *testing.T) {
	zeros := []uint64{0, negative}
	for _, a := range slices.Concat(zeros, finite, nans) {
		for _, b := range slices.Concat(zeros, finite, nans) {
			same := a == b && !slices.Contains(nans, a) || a<<1 == 0 && b<<1 == 0
			wantEqual(t, aFloat, num(a), num(b), same, api.OK)
			wantEqual(t, floats, num(one, a, 0), num(one, b, negative), same, api.OK)
			wantEqual(t, anIface, holding(aFloat, num(a)), holding(aFloat, num(b)), same, api.OK)
			wantEqual(t, marked, mark(a, num(0)), mark(b, num(0)), a == b, api.OK)
		}
		wantSelf(t, aFloat, num(a), !slices.Contains(nans, a), api.OK)
		wantSelf(t, floats, num(0, one, a), !slices.Contains(nans, a), api.OK)
		wantSelf(t, anIface, around(3, holding(aFloat, num(a))), !slices.Contains(nans, a), api.OK)
		wantSelf(t, anInt, num(a), true, api.OK)
	}
}

// someTexts answers texts of which no two are the same.
func someTexts() []string {
	long := strings.Repeat("\xff", api.MaxStr)
	return []string{"", "a", "b", "A", "ab", "ba", "aa", "abc", "\x00", "\x00\x00", "a\x00", "\x00a", "\x01", "\xff", "\xff\xff", "\xfe", "\xff\x00", "\x00\xff", "é", "e\u0301", "\xc3", "\xa9", "0", long, long[1:], long[1:] + "\xfe", "\xfe" + long[1:]}
}

// P10.1, P10.3: texts by their bytes.
func TestTexts(t *testing.T) {
	var alone, boxed, paired, last [][]api.Cell
	for _, s := range someTexts() {
		alone = append(alone, text(s))
		boxed = append(boxed, holding(aStr, text(s)))
		paired = append(paired, pair(1, s))
		last = append(last, text("", "a", s))
	}
	wantEach(t, aStr, alone...)
	wantEach(t, anIface, boxed...)
	wantEach(t, aPair, paired...)
	wantEach(t, texts, last...)
}

// P10.1: texts beside one another don't run together.
func TestTextsBeside(t *testing.T) {
	wantEach(t, texts, besides()...)
}

// besides answers values of texts that have the same bytes, cut in other places.
func besides() [][]api.Cell {
	return [][]api.Cell{text("", "", "abc"), text("", "a", "bc"), text("", "ab", "c"), text("", "abc", ""), text("a", "", "bc"), text("a", "b", "c"), text("a", "bc", ""), text("ab", "", "c"), text("ab", "c", ""), text("abc", "", ""), text("\x00", "", ""), text("", "\x00", ""), text("", "", "\x00"), text("\x00\x00", "", ""), text("\x00", "\x00", ""), text("\x00", "\x01", ""), text("\x01", "\x00", ""), text("", "", "")}
}

// whole answers a value of type mixed with nothing in it that is zero.
func whole() []api.Cell {
	return join(num(1, 2, one), text("x"), num(3), empty(anInt), pair(4, "y"), text("u", "v", "w"))
}

// P10.1, P10.3: each cell of structs and arrays in structs and arrays counts.
func TestParts(t *testing.T) {
	wantEach(t, aPair, pair(0, ""), pair(1, ""), pair(0, "x"), pair(1, "x"), pair(2, "x"), pair(1, "y"))
	wantEach(t, pairs, join(pair(0, "x"), pair(1, "y")), join(pair(1, "y"), pair(0, "x")), join(pair(0, "y"), pair(1, "x")), join(pair(1, "x"), pair(0, "y")))
	other := join(num(0, 7, negative), text("z"), num(8), num(0), pair(9, "q"), text("", "vv", "W"))
	values := [][]api.Cell{whole(), other}
	for at := range whole() {
		v := whole()
		v[at] = other[at]
		values = append(values, v)
	}
	for _, i := range []int{mixed, mixes} {
		wantEach(t, i, values...)
	}
	var inside [][]api.Cell
	for _, v := range values {
		inside = append(inside, around(2, holding(mixes, v)))
	}
	wantEach(t, anIface, inside...)
}

// distinct answers interfaces of which no two are equal, though many hold the same cells.
func distinct() [][]api.Cell {
	return [][]api.Cell{
		num(0),
		empty(anInt), holding(anInt, num(1)), holding(anInt, num(one)),
		empty(aBool), holding(aBool, num(1)),
		empty(aFloat), holding(aFloat, num(1)), holding(aFloat, num(one)),
		empty(aPtr), holding(aPtr, num(1)),
		empty(toMap), holding(toMap, num(1)),
		empty(toMixed), holding(toMixed, num(1)),
		empty(aStr), holding(aStr, text("x")),
		empty(aPair), holding(aPair, pair(1, "x")),
		empty(twin), holding(twin, pair(1, "x")),
		empty(texts), holding(texts, text("", "", "x")),
		empty(pairs), holding(pairs, join(pair(0, ""), pair(1, "x"))),
		empty(marked), holding(marked, mark(0, empty(anInt))),
		empty(measure), holding(measure, join(num(one), empty(aBool))),
		empty(floats), empty(sixteen), empty(mixed), empty(mixes),
		around(1, num(0)), around(2, num(0)), around(3, num(0)), around(120, num(0)), around(121, num(0)),
		around(1, empty(anInt)), around(1, empty(aBool)), around(2, empty(anInt)), around(2, holding(anInt, num(1))),
		around(2, empty(marked)), around(2, holding(marked, mark(0, empty(aStr)))),
		holding(sixteen, join(make([]api.Cell, 15), empty(anInt))),
		holding(sixteen, join(empty(anInt), make([]api.Cell, 15))),
	}
}

// P10.1, P10.3: interfaces both nil, one nil, of two types, of one, and boxes in boxes.
func TestInterfaces(t *testing.T) {
	values := distinct()
	wantEach(t, anIface, values...)
	wantEach(t, single, values...)
	var beside [][]api.Cell
	for _, v := range values {
		beside = append(beside, mark(5, v))
	}
	wantEach(t, marked, beside...)
	wantEqual(t, anIface, num(0), []api.Cell{{Box: []api.Cell{}}}, true, api.OK)
	wantSelf(t, anIface, []api.Cell{{Box: []api.Cell{}}}, true, api.OK)
}

// P10.1: a type that can't be compared shows only where both hold it.
func TestOfOneTypeThatCannotBeCompared(t *testing.T) {
	for _, i := range held() {
		v := empty(i)
		w := copied(v)
		w[0].Box[0].N = 1
		for _, other := range [][]api.Cell{v, w} {
			wantEqual(t, anIface, v, other, false, api.ErrHash)
			wantEqual(t, single, v, other, false, api.ErrHash)
			wantEqual(t, marked, mark(5, v), mark(5, other), false, api.ErrHash)
			wantEqual(t, anIface, around(4, v), around(4, other), false, api.ErrHash)
			wantEqual(t, anIface, around(4, v), around(5, other), false, api.OK)
			wantEqual(t, anIface, holding(marked, mark(5, v)), holding(marked, mark(5, other)), false, api.ErrHash)
			wantEqual(t, anIface, holding(marked, mark(5, v)), holding(marked, mark(6, other)), false, api.OK)
		}
		for _, other := range distinct() {
			wantEqual(t, anIface, v, other, false, api.OK)
			wantEqual(t, anIface, around(3, v), around(3, other), false, api.OK)
		}
		for _, j := range held() {
			if i != j {
				wantEqual(t, anIface, v, empty(j), false, api.OK)
			}
		}
	}
}

// P10.1: which of two stands first: a pair that is not equal, or one of a type that can't be compared.
func TestWhichStandsFirst(t *testing.T) {
	for unequal := range 16 {
		for hidden := range 16 {
			v, w := make([]api.Cell, 16), make([]api.Cell, 16)
			v[unequal], w[unequal] = empty(anInt)[0], empty(aBool)[0]
			want := api.OK
			if hidden != unequal {
				v[hidden], w[hidden] = empty(aMap)[0], empty(aMap)[0]
			}
			if hidden < unequal {
				want = api.ErrHash
			}
			wantEqual(t, sixteen, v, w, false, want)
			wantEqual(t, anIface, holding(sixteen, v), holding(sixteen, w), false, want)
		}
	}
	for _, n := range nans {
		v := join(num(n), empty(aMap))
		wantEqual(t, measure, v, v, false, api.OK)
		wantEqual(t, anIface, around(2, holding(measure, v)), around(2, holding(measure, v)), false, api.OK)
	}
	wantEqual(t, measure, join(num(0), empty(aMap)), join(num(negative), empty(aMap)), false, api.ErrHash)
	// What stands behind a box counts behind all that it holds.
	wantEqual(t, sixteen, join(empty(marked), empty(aMap), make([]api.Cell, 14)), join(holding(marked, mark(0, empty(anInt))), empty(aMap), make([]api.Cell, 14)), false, api.OK)
	wantEqual(t, mixed, join(num(1, 2, one), text("x"), num(3), empty(aMap), pair(4, "y"), text("u", "v", "w")), join(num(1, 2, one), text("x"), num(3), empty(aMap), pair(4, "n"), text("u", "v", "w")), false, api.ErrHash)
	wantEqual(t, mixed, join(num(1, 2, one), text("x"), num(3), empty(aMap), pair(4, "y"), text("u", "v", "w")), join(num(1, 2, one), text("n"), num(3), empty(aMap), pair(4, "y"), text("u", "v", "w")), false, api.OK)
}

// P10.3: ErrHash as by Hash, wherever it stands; Equal of the same value may stop ahead of it.
func TestSelfOfTypesThatCannotBeCompared(t *testing.T) {
	for _, i := range held() {
		v := empty(i)
		wantSelf(t, anIface, v, false, api.ErrHash)
		wantSelf(t, anIface, around(9, v), false, api.ErrHash)
		for _, n := range []uint64{0, negative, one, nan, nans[5]} {
			wantSelf(t, measure, join(num(n), v), false, api.ErrHash)
			wantSelf(t, anIface, holding(measure, join(num(n), v)), false, api.ErrHash)
			wantSelf(t, sixteen, join(holding(aFloat, num(n)), make([]api.Cell, 14), v), false, api.ErrHash)
			wantSelf(t, sixteen, join(v, make([]api.Cell, 14), holding(aFloat, num(n))), false, api.ErrHash)
		}
	}
}

// P10.3: one nan anywhere is enough.
func TestSelfOfNans(t *testing.T) {
	for at := range 16 {
		v := join(slices.Repeat(holding(aFloat, num(one)), 16))
		wantSelf(t, sixteen, v, true, api.OK)
		v[at] = holding(floats, num(0, nans[at%len(nans)], one))[0]
		wantSelf(t, sixteen, v, false, api.OK)
		wantEqual(t, sixteen, v, v, false, api.OK)
		wantSelf(t, anIface, holding(sixteen, v), false, api.OK)
	}
	v := whole()
	wantSelf(t, mixed, v, true, api.OK)
	v[2].N = nan
	wantSelf(t, mixed, v, false, api.OK)
	wantSelf(t, mixes, v, false, api.OK)
	// Its bits are no nan in an Int.
	wantSelf(t, marked, mark(nan, holding(anInt, num(nan))), true, api.OK)
}

// P10.1, P10.3: the largest values.
func TestLargest(t *testing.T) {
	deepest := around(api.MaxCells-2, holding(anInt, num(1)))
	wantEqual(t, anIface, deepest, copied(deepest), true, api.OK)
	wantEqual(t, anIface, deepest, around(api.MaxCells-2, holding(anInt, num(2))), false, api.OK)
	wantEqual(t, anIface, around(api.MaxCells-2, empty(aMap)), around(api.MaxCells-2, empty(aMap)), false, api.ErrHash)
	wantSelf(t, anIface, deepest, true, api.OK)
	wantSelf(t, anIface, around(api.MaxCells-2, holding(aFloat, num(nan))), false, api.OK)
	wantSelf(t, anIface, around(api.MaxCells-2, empty(aMap)), false, api.ErrHash)
	long := strings.Repeat("x", api.MaxStr)
	v := join(slices.Repeat(holding(texts, text(long, long, long)), 16))
	w := copied(v)
	wantEqual(t, sixteen, v, w, true, api.OK)
	w[15].Box[2].S = long[1:] + "y"
	wantEqual(t, sixteen, v, w, false, api.OK)
}
