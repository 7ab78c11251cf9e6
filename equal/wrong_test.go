package equal_test

import (
	"math"
	"reflect"
	"slices"
	"strings"
	"testing"

	"heddle/api"
	"heddle/equal"
)

// unsound answers tables that are not sound.
func unsound() [][]api.Type {
	return [][]api.Type{
		append(table(), api.Type{Kind: 11}),
		append(table(), api.Type{}),
		append(table(), api.Type{Kind: -1}),
		append(table(), api.Type{Kind: api.KInt, Elem: 1}),
		append(table(), api.Type{Kind: api.KMap, Key: aMap, Elem: anInt}),
		append(table(), api.Type{Kind: api.KStruct, Fields: []int{typeCount}}),
		append(table(), api.Type{Kind: api.KArray, Elem: sixteen, Len: 2}),
		append(table(), api.Type{Kind: api.KPtr, Elem: math.MaxInt}),
		slices.Repeat([]api.Type{{Kind: api.KInt}}, api.MaxTypes+1),
		{{Kind: api.KIface, Len: math.MinInt}},
	}
}

// itself answers an interface whose box is itself.
func itself() []api.Cell {
	v := holding(single, nil)
	v[0].Box = v
	return v
}

// shared answers a value whose boxes, each in two others, are far too many.
func shared() []api.Cell {
	v := num(0)
	for range 40 {
		v = holding(sixteen, slices.Repeat(v, 16))
	}
	return v
}

// odd answers lists of cells that are sound for few types or none.
func odd() [][]api.Cell {
	return [][]api.Cell{nil, {}, num(0), num(2), num(math.MaxUint64), text("x"), pair(1, "x"), empty(anInt), empty(aMap), empty(anIface), itself(), shared(), make([]api.Cell, 300)}
}

// All calls with a table, R2, R3: ErrForm for a table that is not sound, ahead of all else.
func TestTablesThatAreNotSound(t *testing.T) {
	for _, ts := range unsound() {
		for _, i := range []int{math.MinInt, -1, 0, aMap, anIface, typeCount - 1, typeCount, typeCount + 1, api.MaxTypes, math.MaxInt} {
			for _, v := range odd() {
				wantAll(t, ts, i, v, num(0), api.ErrForm)
			}
		}
	}
}

// All calls with a table, R2, R3: ErrArg for a number that is no type, whatever the values are.
func TestNoTypes(t *testing.T) {
	for _, v := range odd() {
		for _, i := range []int{math.MinInt, math.MinInt + 1, -1 << 32, -2, -1, typeCount, typeCount + 1, api.MaxTypes, 1 << 32, math.MaxInt - 1, math.MaxInt} {
			wantAll(t, table(), i, v, num(0), api.ErrArg)
		}
		for _, i := range []int{math.MinInt, -1, 0, 1, math.MaxInt} {
			wantAll(t, nil, i, v, nil, api.ErrArg)
			wantAll(t, []api.Type{}, i, v, num(0), api.ErrArg)
		}
	}
}

// The first and the last type of the shortest and the longest table.
func TestShortAndLongTables(t *testing.T) {
	for _, n := range []int{1, 2, api.MaxTypes} {
		ts := slices.Repeat([]api.Type{{Kind: api.KBool}}, n)
		for _, i := range []int{0, n - 1} {
			if ok, e := equal.Equal(ts, i, num(1), num(1)); !ok || e != api.OK {
				t.Errorf("Equal, type %d of %d: %v, %d", i, n, ok, e)
			}
			if h, e := equal.Hash(ts, i, num(1), 4, 0); h != modelMix(5) || e != api.OK {
				t.Errorf("Hash, type %d of %d: %d, %d", i, n, h, e)
			}
			if ok, e := equal.Self(ts, i, num(1)); !ok || e != api.OK {
				t.Errorf("Self, type %d of %d: %v, %d", i, n, ok, e)
			}
		}
		wantAll(t, ts, n, num(1), num(1), api.ErrArg)
		wantAll(t, ts, -1, num(1), num(1), api.ErrArg)
	}
	ts := slices.Repeat([]api.Type{{Kind: api.KInt}}, api.MaxTypes)
	ts[0] = api.Type{Kind: api.KIface}
	last := holding(api.MaxTypes-1, num(5))
	if h, e := equal.Hash(ts, 0, last, 0, 0); h != modelMix(modelMix(api.MaxTypes)^5) || e != api.OK {
		t.Errorf("Hash of an interface that holds the last type: %d, %d", h, e)
	}
	wantAll(t, ts, 0, holding(api.MaxTypes, num(5)), last, api.ErrForm)
}

// All calls with a table: values with a cell too few, one too many, or none, of every type: ErrForm, ahead of ErrKind.
func TestValuesOfAnotherWidth(t *testing.T) {
	for i, width := range widths {
		sound := make([]api.Cell, width)
		for n := range 20 {
			if n != width {
				wantAll(t, table(), i, make([]api.Cell, n), sound, api.ErrForm)
			}
		}
		wantAll(t, table(), i, nil, sound, api.ErrForm)
		wantAll(t, table(), i, make([]api.Cell, api.MaxCells+1), sound, api.ErrForm)
	}
}

// All calls with a table: cells of a wrong kind, of every type and at every place: ErrForm, ahead of ErrKind.
func TestValuesOfAnotherKind(t *testing.T) {
	wrong := []api.Cell{{N: 1, S: "x"}, {S: strings.Repeat("x", api.MaxStr+1)}, {T: -1}, {T: math.MinInt}, {T: math.MaxInt}, {T: typeCount + 1, Box: num(0)}, {Box: num(0)}, {T: anInt + 1}, {T: anIface + 1, Box: num(0)}, {T: anIter + 1, Box: num(0)}, {T: aBool + 1, Box: num(2)}, {T: aMap + 1, Box: num(1 << 31)}}
	for i, width := range widths {
		for at := range width {
			for _, c := range wrong {
				v := make([]api.Cell, width)
				v[at] = c
				wantAll(t, table(), i, v, make([]api.Cell, width), api.ErrForm)
			}
		}
	}
	wantAll(t, table(), aBool, num(2), num(1), api.ErrForm)
	wantAll(t, table(), anInt, text("x"), num(1), api.ErrForm)
	wantAll(t, table(), aFloat, text("x"), num(1), api.ErrForm)
	wantAll(t, table(), aStr, num(1), text("x"), api.ErrForm)
	wantAll(t, table(), anIface, num(1), num(0), api.ErrForm)
	for _, i := range []int{aPtr, toMap, toMixed, aMap, anIter} {
		wantAll(t, table(), i, num(1<<31), num(1), api.ErrForm)
	}
}

// All calls with a table: values that are too large, or have no end: ErrForm.
func TestValuesThatAreTooLarge(t *testing.T) {
	for _, v := range [][]api.Cell{itself(), shared(), around(api.MaxCells-1, empty(anInt)), around(60000, num(0))} {
		wantAll(t, table(), anIface, v, num(0), api.ErrForm)
		wantAll(t, table(), single, v, empty(anInt), api.ErrForm)
		wantAll(t, table(), marked, mark(1, v), mark(2, num(0)), api.ErrForm)
	}
}

// P10.1: a value that is not sound counts, though a pair that decides stands ahead of it.
func TestSoundnessBeforeEquality(t *testing.T) {
	bad := empty(anIface)
	for _, c := range []struct {
		i    int
		v, w []api.Cell
	}{
		{marked, mark(1, bad), mark(2, num(0))},
		{marked, mark(1, empty(aMap)), mark(2, bad)},
		{measure, join(num(nan), bad), join(num(nan), num(0))},
		{sixteen, join(empty(aMap), make([]api.Cell, 14), bad), join(empty(aMap), make([]api.Cell, 15))},
		{anIface, around(3, bad), num(0)},
		{anIface, holding(marked, mark(1, bad)), holding(aPair, pair(1, ""))},
	} {
		wantEqual(t, c.i, c.v, c.w, false, api.ErrForm)
	}
	wantNoHash(t, sixteen, join(empty(aMap), make([]api.Cell, 14), bad), api.ErrForm)
	wantSelf(t, sixteen, join(empty(aMap), make([]api.Cell, 14), bad), false, api.ErrForm)
}

// All calls with a table, R2, R3: ErrKind for types that can't be compared, at the top, in a struct and in an array, whatever the values hold.
func TestTypesThatCannotBeCompared(t *testing.T) {
	for _, i := range uncompared {
		zero := make([]api.Cell, widths[i])
		other := copied(zero)
		other[0].N = 1
		wantAll(t, table(), i, zero, zero, api.ErrKind)
		wantAll(t, table(), i, other, zero, api.ErrKind)
	}
	// ErrKind stands ahead of ErrHash, and a pair that is not equal ahead of the map changes nothing.
	v := join(num(1), num(0, 0), empty(aMap))
	wantAll(t, table(), nested, v, v, api.ErrKind)
	wantAll(t, table(), nested, v, join(num(2), num(0, 0), empty(aMap)), api.ErrKind)
	for i := range typeCount {
		if !slices.Contains(uncompared, i) {
			wantEqual(t, i, make([]api.Cell, widths[i]), make([]api.Cell, widths[i]), true, api.OK)
			wantSelf(t, i, make([]api.Cell, widths[i]), true, api.OK)
		}
	}
}

// roomy answers a copy of v whose lists have spare room that is not zero.
func roomy(v []api.Cell) []api.Cell {
	list := make([]api.Cell, 0, len(v)+2)
	for _, c := range v {
		if len(c.Box) > 0 {
			c.Box = roomy(c.Box)
		}
		list = append(list, c)
	}
	return append(list, api.Cell{N: 77, S: "room", T: 78}, api.Cell{N: 79, Box: num(80)})[:len(v)]
}

// deep answers a copy of v with all spare room of its lists.
func deep(v []api.Cell) []api.Cell {
	v = slices.Clone(v[:cap(v)])
	for i, c := range v {
		v[i].Box = deep(c.Box)
	}
	return v
}

// deepTable answers a copy of a table with all spare room of its lists.
func deepTable(ts []api.Type) []api.Type {
	ts = slices.Clone(ts[:cap(ts)])
	for i, one := range ts {
		ts[i].Fields = slices.Clone(one.Fields[:cap(one.Fields)])
	}
	return ts
}

// R4: tables and values stay as they are, boxes and spare room too, whatever is answered.
func TestNothingIsChanged(t *testing.T) {
	ts := append(table(), api.Type{Kind: 93})[:typeCount]
	for i, one := range ts {
		ts[i].Fields = append(slices.Clone(one.Fields), 94, 95)[:len(one.Fields)]
	}
	inner := holding(mixed, whole())
	for _, c := range []struct {
		i    int
		v, w []api.Cell
	}{
		{mixed, whole(), whole()},
		{sixteen, slices.Repeat(inner, 16), slices.Repeat(inner, 16)},
		{anIface, around(5, inner), around(5, inner)},
		{marked, mark(1, empty(aMap)), mark(1, empty(aMap))},
		{measure, join(num(nan), inner), join(num(nan), inner)},
		{maps, num(1, 2), num(3, 4)},
		{anIface, around(5, empty(anIface)), around(5, inner)},
		{typeCount, inner, inner},
	} {
		v, w := roomy(c.v), roomy(c.w)
		beforeV, beforeW, beforeTs := deep(v), deep(w), deepTable(ts)
		equal.Equal(ts, c.i, v, w)
		equal.Equal(ts, c.i, w, v)
		equal.Hash(ts, c.i, v, 3, 4)
		equal.Self(ts, c.i, v)
		if !reflect.DeepEqual(deep(v), beforeV) || !reflect.DeepEqual(deep(w), beforeW) {
			t.Errorf("type %d: values that were handed in have changed: %s, %s", c.i, show(v), show(w))
		}
		if !reflect.DeepEqual(deepTable(ts), beforeTs) {
			t.Errorf("type %d: the table that was handed in has changed: %v", c.i, ts)
		}
	}
}

// R4, R5: what is handed in is not kept: when it changes, so do the answers, and when it is as it was, so are they.
func TestNothingIsKept(t *testing.T) {
	ts := table()
	v := join(holding(marked, mark(1, holding(aFloat, num(one)))), make([]api.Cell, 15))
	w := copied(v)
	want := func(what string, equals, self bool, e api.Errno) uint64 {
		t.Helper()
		if ok, got := equal.Equal(ts, sixteen, v, w); ok != equals || got != e {
			t.Errorf("%s: Equal: %v, %d, want %v, %d", what, ok, got, equals, e)
		}
		if ok, got := equal.Self(ts, sixteen, v); ok != self || got != e {
			t.Errorf("%s: Self: %v, %d, want %v, %d", what, ok, got, self, e)
		}
		h, got := equal.Hash(ts, sixteen, v, 8, 9)
		if got != e {
			t.Errorf("%s: Hash: %d, want %d", what, got, e)
		}
		return h
	}
	first := want("at first", true, true, api.OK)
	v[0].Box[1].Box[0].N = nan
	if want("a nan", false, false, api.OK) == first {
		t.Errorf("the hash of a nan is the one before")
	}
	v[0].Box[1].Box[0].N = one
	if want("as at first", true, true, api.OK) != first {
		t.Errorf("the hash is not the one at first")
	}
	ts[aFloat] = api.Type{Kind: api.KPtr, Elem: 99}
	want("a table that is not sound", false, false, api.ErrForm)
	ts[aFloat] = api.Type{Kind: api.KInt}
	if want("an Int for a Float", true, true, api.OK) != first {
		t.Errorf("the hash of the same bits in an Int is another")
	}
	v[0].Box[1].Box[0].N, w[0].Box[1].Box[0].N = nan, nan
	want("a nan's bits in an Int", true, true, api.OK)
	v[0].Box[1].Box[0].N, w[0].Box[1].Box[0].N = 5, 5
	ts[aFloat] = api.Type{Kind: api.KMap, Key: anInt, Elem: anInt}
	ts[measure].Fields[0], ts[floats].Elem, ts[mixed].Fields[2] = anInt, anInt, anInt
	want("a map for a Float", false, false, api.ErrHash)
}
