package ops_test

import (
	"math"
	"slices"
	"strings"
	"testing"

	"heddle/api"
)

// unsound answers tables that are not sound.
func unsound() [][]api.Type {
	return [][]api.Type{
		append(table(), api.Type{Kind: 11}),
		append(table(), api.Type{}),
		append(table(), api.Type{Kind: -1}),
		append(table(), api.Type{Kind: api.KInt, Elem: 1}),
		append(table(), api.Type{Kind: api.KMap, Key: aMap, Elem: anInt}),
		append(table(), api.Type{Kind: api.KStruct, Fields: []int{typeCount}}),
		append(table(), api.Type{Kind: api.KArray, Elem: sixteen, Len: 2}),
		append(table(), api.Type{Kind: api.KPtr, Elem: math.MaxInt}),
		slices.Repeat([]api.Type{{Kind: api.KInt}}, api.MaxTypes+1),
		{{Kind: api.KIface, Len: math.MinInt}},
	}
}

// itself answers an interface whose box is itself.
func itself() []api.Cell {
	v := list(holding(single, nil))
	v[0].Box = v
	return v
}

// shared answers a value whose boxes, each in sixteen others, are far too many.
func shared() []api.Cell {
	v := num(0)
	for range 40 {
		v = list(holding(sixteen, slices.Repeat(v, 16)))
	}
	return v
}

// odd answers lists of cells that are sound for few types or none.
func odd() [][]api.Cell {
	return [][]api.Cell{nil, {}, num(0), num(2), num(math.MaxUint64), text("x"), pair(1, "x"), list(holding(anInt, num(0))), list(holding(anIface, num(0))), itself(), shared(), chain(api.MaxCells), make([]api.Cell, 300)}
}

// wantAll looks for an error, and nothing else, from all calls with a table: Box is asked with v, Unbox and Holds with its first cell and with one that holds it.
func wantAll(t *testing.T, ts []api.Type, i int, v []api.Cell, want api.Errno) {
	t.Helper()
	wantNoBox(t, ts, i, v, want)
	wantNoHolder(t, ts, i, holding(anInt, v), want)
	if len(v) > 0 {
		wantNoHolder(t, ts, i, v[0], want)
	}
}

// P11.3, R2, R3: ErrForm for a table that is not sound, ahead of all else.
func TestTablesThatAreNotSound(t *testing.T) {
	for _, ts := range unsound() {
		for _, i := range []int{math.MinInt, -1, 0, aMap, anIface, anIter, typeCount - 1, typeCount, typeCount + 1, api.MaxTypes, math.MaxInt} {
			for _, v := range odd() {
				wantAll(t, ts, i, v, api.ErrForm)
			}
		}
	}
}

// P11.3, R2, R3: ErrArg for a number that is no type, ahead of a value or a cell that is not sound: the chapter says so.
func TestNoTypes(t *testing.T) {
	for _, v := range odd() {
		for _, i := range []int{math.MinInt, math.MinInt + 1, -1 << 32, -2, -1, typeCount, typeCount + 1, api.MaxTypes, 1 << 32, math.MaxInt - 1, math.MaxInt} {
			wantAll(t, table(), i, v, api.ErrArg)
		}
		for _, i := range []int{math.MinInt, -1, 0, 1, math.MaxInt} {
			wantAll(t, nil, i, v, api.ErrArg)
			wantAll(t, []api.Type{}, i, v, api.ErrArg)
		}
	}
}

// wantUnsound looks for ErrForm where a value of type i is boxed, and where an interface holds it, whatever type is asked for: it stands ahead of ErrKind and ErrType.
func wantUnsound(t *testing.T, i int, v []api.Cell) {
	t.Helper()
	wantNoBox(t, table(), i, v, api.ErrForm)
	for _, j := range []int{i, anInt, aStr, anIface, anIter, last} {
		wantNoHolder(t, table(), j, holding(i, v), api.ErrForm)
		wantNoHolder(t, table(), j, holding(single, list(holding(i, v))), api.ErrForm)
	}
}

// P11.3: values with a cell too few, one too many, or none, of every type.
func TestValuesOfAnotherWidth(t *testing.T) {
	for i, width := range widths {
		for n := range 20 {
			if n != width {
				wantUnsound(t, i, make([]api.Cell, n))
			}
		}
		wantUnsound(t, i, nil)
		wantUnsound(t, i, make([]api.Cell, api.MaxCells+1))
	}
}

// P11.3: cells of a wrong kind, of every type and at every place.
func TestValuesOfAnotherKind(t *testing.T) {
	wrong := []api.Cell{{N: 1, S: "x"}, {S: strings.Repeat("x", api.MaxStr+1)}, {T: -1}, {T: math.MinInt}, {T: math.MaxInt}, {T: typeCount + 1, Box: num(0)}, {Box: num(0)}, {T: anInt + 1}, {T: anIface + 1, Box: num(0)}, {T: anIter + 1, Box: num(0)}, {T: aBool + 1, Box: num(2)}, {T: aMap + 1, Box: num(1 << 31)}}
	for i, width := range widths {
		for at := range width {
			for _, c := range wrong {
				v := make([]api.Cell, width)
				v[at] = c
				wantUnsound(t, i, v)
			}
		}
	}
	wantUnsound(t, aBool, num(2))
	wantUnsound(t, anInt, text("x"))
	wantUnsound(t, aFloat, text("x"))
	wantUnsound(t, aStr, num(1))
	wantUnsound(t, anIface, num(1))
	wantUnsound(t, alone, num(1))
	wantUnsound(t, aPair, join(text("x"), num(1)))
	for _, i := range []int{aPtr, toPtr, aMap, anIter, last} {
		wantUnsound(t, i, num(1<<31))
	}
}

// P11.3: cells that are none of an interface, whatever is asked for: a number or a text beside what it holds, a box without a type, a type without its box, types that are none or may not be held.
func TestCellsOfNoInterface(t *testing.T) {
	for _, c := range []api.Cell{
		{N: 1}, {N: math.MaxUint64}, {S: "x"}, {Box: num(0)}, {Box: make([]api.Cell, 2)},
		{N: 1, T: anInt + 1, Box: num(5)}, {S: "x", T: anInt + 1, Box: num(5)}, {S: "x", T: aStr + 1, Box: text("x")}, {T: anInt + 1}, {T: anInt + 1, Box: []api.Cell{}},
		{T: -1}, {T: -1, Box: num(0)}, {T: -anInt - 1, Box: num(0)}, {T: math.MinInt, Box: num(0)}, {T: math.MaxInt, Box: num(0)}, {T: typeCount + 1, Box: num(0)}, {T: typeCount + 1}, {T: api.MaxTypes, Box: num(0)}, {T: api.MaxTypes + 1, Box: num(0)},
		holding(anIface, num(0)), holding(anIface, list(holding(anInt, num(0)))), holding(anIter, num(0)), holding(anIter, num(1)), holding(last, num(0)),
		holding(single, list(holding(anIface, num(0)))), holding(mixed, join(make([]api.Cell, 6), list(holding(anIter, num(1))), make([]api.Cell, 2))),
		itself()[0], shared()[0], holding(single, chain(api.MaxCells+1)), holding(single, chain(60000)),
	} {
		for i := range typeCount {
			wantNoHolder(t, table(), i, c, api.ErrForm)
		}
	}
}

// P11.3, R2: ErrKind for a type that no interface holds, behind ErrForm, ahead of ErrLarge and ErrType.
func TestTypesThatAreNotBoxed(t *testing.T) {
	for _, i := range unboxed {
		wantNoBox(t, table(), i, num(0), api.ErrKind)
		for _, c := range []api.Cell{{}, {Box: []api.Cell{}}, holding(anInt, num(5)), holding(mixed, whole()), holding(single, chain(api.MaxCells-1))} {
			wantNoHolder(t, table(), i, c, api.ErrKind)
		}
	}
	wantNoBox(t, table(), anIface, list(holding(anInt, num(5))), api.ErrKind)
	wantNoBox(t, table(), anIface, chain(api.MaxCells), api.ErrKind)
	wantNoBox(t, table(), anIface, chain(api.MaxCells+1), api.ErrForm)
	wantNoBox(t, table(), anIter, num(math.MaxInt32), api.ErrKind)
	for _, i := range boxed() {
		wantBox(t, table(), i, make([]api.Cell, widths[i]))
	}
}
