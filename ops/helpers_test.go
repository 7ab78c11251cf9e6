package ops_test

import (
	"fmt"
	"math"
	"reflect"
	"slices"
	"strings"
	"testing"

	"heddle/api"
	"heddle/ops"
)

// The types of the table that the tests take. Those that no interface may hold stand between the others.
const (
	anInt = iota
	aMap
	anIface
	aFloat
	anIter // over the map
	aBool
	aStr
	aPtr    // to itself
	other   // an Int again: another type all the same
	toPtr   // a pointer to a pointer
	aPair   // a struct of an Int and a Str
	twin    // another struct of an Int and a Str
	withMap // a struct of an Int and a map
	single  // an array of one interface
	sixteen // an array of sixteen interfaces
	mixed   // a struct of one of each kind but an iterator, and a pair
	alone   // a struct of an interface alone
	pairs   // an array of two pairs
	last    // an iterator again
	typeCount
)

func table() []api.Type {
	return []api.Type{
		anInt:   {Kind: api.KInt},
		aMap:    {Kind: api.KMap, Key: anInt, Elem: anIface},
		anIface: {Kind: api.KIface},
		aFloat:  {Kind: api.KFloat},
		anIter:  {Kind: api.KIter, Elem: aMap},
		aBool:   {Kind: api.KBool},
		aStr:    {Kind: api.KStr},
		aPtr:    {Kind: api.KPtr, Elem: aPtr},
		other:   {Kind: api.KInt},
		toPtr:   {Kind: api.KPtr, Elem: aPtr},
		aPair:   {Kind: api.KStruct, Fields: []int{anInt, aStr}},
		twin:    {Kind: api.KStruct, Fields: []int{anInt, aStr}},
		withMap: {Kind: api.KStruct, Fields: []int{anInt, aMap}},
		single:  {Kind: api.KArray, Elem: anIface, Len: 1},
		sixteen: {Kind: api.KArray, Elem: anIface, Len: 16},
		mixed:   {Kind: api.KStruct, Fields: []int{aBool, anInt, aFloat, aStr, aPtr, aMap, anIface, aPair}},
		alone:   {Kind: api.KStruct, Fields: []int{anIface}},
		pairs:   {Kind: api.KArray, Elem: aPair, Len: 2},
		last:    {Kind: api.KIter, Elem: aMap},
	}
}

// widths of the types, and which of them no interface may hold, written out.
var (
	widths  = [typeCount]int{1, 1, 1, 1, 1, 1, 1, 1, 1, 1, 2, 2, 2, 1, 16, 9, 1, 4, 1}
	unboxed = []int{anIface, anIter, last}
)

// boxed answers the types that an interface may hold.
func boxed() (list []int) {
	for i := range typeCount {
		if !slices.Contains(unboxed, i) {
			list = append(list, i)
		}
	}
	return list
}

// num answers a value of so many cells, each with its number.
func num(n ...uint64) []api.Cell {
	var v []api.Cell
	for _, one := range n {
		v = append(v, api.Cell{N: one})
	}
	return v
}

func text(s string) []api.Cell {
	return []api.Cell{{S: s}}
}

func pair(n uint64, s string) []api.Cell {
	return []api.Cell{{N: n}, {S: s}}
}

// holding answers the cell of an interface that holds v of type t.
func holding(t int, v []api.Cell) api.Cell {
	return api.Cell{T: t + 1, Box: v}
}

// list answers a value of these cells.
func list(c ...api.Cell) []api.Cell {
	return c
}

// join answers the lists one behind the other.
func join(lists ...[]api.Cell) []api.Cell {
	return slices.Concat(lists...)
}

// whole answers a value of the type mixed, with a box in a box.
func whole() []api.Cell {
	return join(num(1, math.MaxUint64, 0x7ff8000000000000), text("a\x00\xff"), num(7, math.MaxInt32), list(holding(single, list(holding(aPair, pair(3, "deep"))))), pair(1<<63, ""))
}

// chain answers a value of the type single, of so many cells in all, each in the box of the one before.
func chain(size int) []api.Cell {
	v := num(0)
	for range size - 1 {
		v = list(holding(single, v))
	}
	return v
}

// bush answers a value of the type sixteen of so many cells in all, most of them in boxes of one cell and the last ones in a row.
func bush(size int) []api.Cell {
	v := make([]api.Cell, 16)
	for i := range 15 {
		v[i] = holding(anInt, num(uint64(i)))
	}
	v[15] = holding(single, chain(size-31))
	return v
}

// copied answers v in memory of its own.
func copied(v []api.Cell) []api.Cell {
	v = slices.Clone(v)
	for i, c := range v {
		v[i].Box = copied(c.Box)
	}
	return v
}

// show tells a value, but nothing deep inside, since it may have no end.
func show(v ...api.Cell) string {
	return showTo(v, 3)
}

func showTo(v []api.Cell, depth int) string {
	if depth == 0 && len(v) > 0 {
		return "[..]"
	}
	var list []string
	for _, c := range v[:min(len(v), 16)] {
		list = append(list, fmt.Sprintf("{%d %.20q %d %s}", c.N, c.S, c.T, showTo(c.Box, depth-1)))
	}
	return fmt.Sprintf("[%.400s]", strings.Join(list, " "))
}

// full answers a cell with a number and a text, and all else set, which no way may look at.
func full(n uint64, s string) api.Cell {
	return api.Cell{N: n, S: s, T: 3, Box: []api.Cell{{N: 4, S: "box"}}}
}

// wantArith asks with bare cells, and with cells that have all else set, and looks for a cell with just this number.
func wantArith(t *testing.T, way int, a, b, want uint64) {
	t.Helper()
	for _, c := range [][2]api.Cell{{{N: a}, {N: b}}, {full(a, "x"), full(b, "y")}, {full(a, "y"), full(b, "")}} {
		if x, e := ops.Arith(way, c[0], c[1]); !reflect.DeepEqual(x, api.Cell{N: want}) || e != api.OK {
			t.Errorf("Arith(%d, %s, %s) = %s, %d, want %#x", way, show(c[0]), show(c[1]), show(x), e, want)
		}
	}
}

// wantNone looks for an error, and nothing else.
func wantNone(t *testing.T, way int, a, b uint64, want api.Errno) {
	t.Helper()
	for _, c := range [][2]api.Cell{{{N: a}, {N: b}}, {full(a, "x"), full(b, "y")}} {
		if x, e := ops.Arith(way, c[0], c[1]); !reflect.DeepEqual(x, api.Cell{}) || e != want {
			t.Errorf("Arith(%d, %s, %s) = %s, %d, want nothing, %d", way, show(c[0]), show(c[1]), show(x), e, want)
		}
	}
}

// draw gives numbers that look like chance, but are the same in each run.
type draw uint64

func (d *draw) next() uint64 {
	*d = *d*6364136223846793005 + 1442695040888963407
	x := uint64(*d)
	return x>>33 ^ x<<17
}

func (d *draw) below(n int) int {
	*d = *d*6364136223846793005 + 1442695040888963407
	return int(uint64(*d) >> 33 % uint64(n))
}

func pick[T any](d *draw, list ...T) T {
	return list[d.below(len(list))]
}
