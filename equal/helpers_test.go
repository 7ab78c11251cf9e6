package equal_test

import (
	"fmt"
	"math"
	"math/big"
	"slices"
	"strings"
	"testing"

	"heddle/api"
	"heddle/equal"
)

// The types of the table that the tests take. A map's and an iterator's stand between the others, and so do those that can't be compared because they have a map within them.
const (
	anInt = iota
	aMap
	anIface
	aFloat
	marked // a struct of an Int and an interface: the chapter's example
	aBool
	aStr
	aPtr    // to itself
	toMap   // a pointer to a map
	anIter  // over the map
	withMap // a struct of an Int and a map
	maps    // an array of two maps
	nested  // a struct of an Int, a withMap, an interface
	toMixed // a pointer to a later type
	aPair   // a struct of an Int and a Str
	twin    // another struct of an Int and a Str
	texts   // an array of three texts
	floats  // an array of three floats
	measure // a struct of a Float and an interface
	single  // an array of one interface
	sixteen // an array of sixteen interfaces
	pairs   // an array of two pairs
	mixed   // a struct of one of each kind, a pair and texts
	mixes   // a struct of a mixed alone
	typeCount
)

func table() []api.Type {
	return []api.Type{
		anInt:   {Kind: api.KInt},
		aMap:    {Kind: api.KMap, Key: anInt, Elem: anIface},
		anIface: {Kind: api.KIface},
		aFloat:  {Kind: api.KFloat},
		marked:  {Kind: api.KStruct, Fields: []int{anInt, anIface}},
		aBool:   {Kind: api.KBool},
		aStr:    {Kind: api.KStr},
		aPtr:    {Kind: api.KPtr, Elem: aPtr},
		toMap:   {Kind: api.KPtr, Elem: aMap},
		anIter:  {Kind: api.KIter, Elem: aMap},
		withMap: {Kind: api.KStruct, Fields: []int{anInt, aMap}},
		maps:    {Kind: api.KArray, Elem: aMap, Len: 2},
		nested:  {Kind: api.KStruct, Fields: []int{anInt, withMap, anIface}},
		toMixed: {Kind: api.KPtr, Elem: mixed},
		aPair:   {Kind: api.KStruct, Fields: []int{anInt, aStr}},
		twin:    {Kind: api.KStruct, Fields: []int{anInt, aStr}},
		texts:   {Kind: api.KArray, Elem: aStr, Len: 3},
		floats:  {Kind: api.KArray, Elem: aFloat, Len: 3},
		measure: {Kind: api.KStruct, Fields: []int{aFloat, anIface}},
		single:  {Kind: api.KArray, Elem: anIface, Len: 1},
		sixteen: {Kind: api.KArray, Elem: anIface, Len: 16},
		pairs:   {Kind: api.KArray, Elem: aPair, Len: 2},
		mixed:   {Kind: api.KStruct, Fields: []int{aBool, anInt, aFloat, aStr, aPtr, anIface, aPair, texts}},
		mixes:   {Kind: api.KStruct, Fields: []int{mixed}},
	}
}

// widths of the types, and which of them can't be compared, written out.
var (
	widths     = [typeCount]int{1, 1, 1, 1, 2, 1, 1, 1, 1, 1, 2, 2, 4, 1, 2, 2, 3, 3, 2, 1, 16, 4, 11, 11}
	uncompared = []int{aMap, anIter, withMap, maps, nested}
)

// held answers those of the types that can't be compared which an interface may hold.
func held() []int {
	return []int{aMap, withMap, maps, nested}
}

// The floats that matter.
var (
	negative = uint64(1 << 63) // -0
	infinity = math.Float64bits(math.Inf(1))
	one      = math.Float64bits(1)
	nan      = uint64(0x7ff8000000000000)
	nans     = []uint64{nan, 0x7ff8000000000001, 0x7ff0000000000001, 0x7ff4000000000000, 0x7fffffffffffffff, 0xfff8000000000000, 0xfff8000000000001, 0xfff0000000000001, 0xffffffffffffffff}
	finite   = []uint64{1, 1<<63 | 1, one, one | 1<<63, one + 1, infinity - 1, infinity, infinity | 1<<63, 0x7fe0000000000000, 0x0010000000000000, 0x000fffffffffffff}
)

// num answers a value of so many cells, each with its number.
func num(n ...uint64) []api.Cell {
	var v []api.Cell
	for _, one := range n {
		v = append(v, api.Cell{N: one})
	}
	return v
}

// text answers a value of so many cells, each with its text.
func text(s ...string) []api.Cell {
	var v []api.Cell
	for _, one := range s {
		v = append(v, api.Cell{S: one})
	}
	return v
}

func pair(n uint64, s string) []api.Cell {
	return []api.Cell{{N: n}, {S: s}}
}

// holding answers an interface that holds v of type t.
func holding(t int, v []api.Cell) []api.Cell {
	return []api.Cell{{T: t + 1, Box: v}}
}

// empty answers an interface that holds a zero value of type t.
func empty(t int) []api.Cell {
	return holding(t, make([]api.Cell, widths[t]))
}

// mark answers a value of the type marked.
func mark(n uint64, iface []api.Cell) []api.Cell {
	return join(num(n), iface)
}

// join answers the lists one behind the other.
func join(lists ...[]api.Cell) []api.Cell {
	return slices.Concat(lists...)
}

// around answers an interface that holds v behind n boxes, one in the other.
func around(n int, v []api.Cell) []api.Cell {
	for range n {
		v = holding(single, v)
	}
	return v
}

// copied answers v in memory of its own.
func copied(v []api.Cell) []api.Cell {
	v = slices.Clone(v)
	for i, c := range v {
		v[i].Box = copied(c.Box)
	}
	return v
}

// show tells a value, but nothing deep inside, since it may have no end.
func show(v []api.Cell) string {
	return showTo(v, 3)
}

func showTo(v []api.Cell, depth int) string {
	if depth == 0 && len(v) > 0 {
		return "[..]"
	}
	var list []string
	for _, c := range v[:min(len(v), 16)] {
		list = append(list, fmt.Sprintf("{%d %.20q %d %s}", c.N, c.S, c.T, showTo(c.Box, depth-1)))
	}
	return fmt.Sprintf("[%.400s]", strings.Join(list, " "))
}

// wantEqual asks for both orders of the two: no answer hangs on which stands first.
func wantEqual(t *testing.T, i int, v, w []api.Cell, want bool, wantE api.Errno) {
	t.Helper()
	for _, c := range [][2][]api.Cell{{v, w}, {w, v}} {
		if ok, e := equal.Equal(table(), i, c[0], c[1]); ok != want || e != wantE {
			t.Errorf("Equal(type %d, %s, %s) = %v, %d, want %v, %d", i, show(c[0]), show(c[1]), ok, e, want, wantE)
		}
	}
}

// wantEach holds all values against all: each equals itself alone.
func wantEach(t *testing.T, i int, values ...[]api.Cell) {
	t.Helper()
	for m, v := range values {
		for n, w := range values {
			wantEqual(t, i, v, copied(w), m == n, api.OK)
		}
		wantSelf(t, i, v, true, api.OK)
	}
}

func wantSelf(t *testing.T, i int, v []api.Cell, want bool, wantE api.Errno) {
	t.Helper()
	if ok, e := equal.Self(table(), i, v); ok != want || e != wantE {
		t.Errorf("Self(type %d, %s) = %v, %d, want %v, %d", i, show(v), ok, e, want, wantE)
	}
}

// ends are the seeds and salts that the tests take.
func ends() []uint64 {
	return []uint64{0, 1, 5, 1 << 63, math.MaxUint64}
}

// theSalt stands in a list of numbers for what is handed in as the salt.
const theSalt = "salt"

// wantHash looks whether the hash is made of these numbers in this order, under all seeds and salts.
func wantHash(t *testing.T, i int, v []api.Cell, folded ...any) {
	t.Helper()
	for _, seed := range ends() {
		for _, salt := range ends() {
			want := seed
			for _, x := range folded {
				want = modelMix(want ^ number(x, salt))
			}
			if h, e := equal.Hash(table(), i, v, seed, salt); h != want || e != api.OK {
				t.Errorf("Hash(type %d, %s, %d, %d) = %d, %d, want %d", i, show(v), seed, salt, h, e, want)
			}
		}
	}
}

func number(x any, salt uint64) uint64 {
	switch x := x.(type) {
	case int:
		return uint64(x)
	case uint64:
		return x
	}
	return salt
}

func wantNoHash(t *testing.T, i int, v []api.Cell, want api.Errno) {
	t.Helper()
	for _, seed := range ends() {
		if h, e := equal.Hash(table(), i, v, seed, seed+7); h != 0 || e != want {
			t.Errorf("Hash(type %d, %s, %d) = %d, %d, want 0, %d", i, show(v), seed, h, e, want)
		}
	}
}

// hash answers a hash that there is.
func hash(t *testing.T, i int, v []api.Cell, seed, salt uint64) uint64 {
	t.Helper()
	h, e := equal.Hash(table(), i, v, seed, salt)
	if e != api.OK {
		t.Fatalf("Hash(type %d, %s): %d", i, show(v), e)
	}
	return h
}

// modelMix goes by the chapter's words with numbers of any length, cut to 64 bits behind each product.
func modelMix(n uint64) uint64 {
	cut := new(big.Int).SetUint64(math.MaxUint64)
	x := new(big.Int).SetUint64(n)
	shifted := func(by uint) { x.Xor(x, new(big.Int).Rsh(x, by)) }
	times := func(by string) {
		factor, _ := new(big.Int).SetString(by, 0)
		x.And(x.Mul(x, factor), cut)
	}
	shifted(32)
	times("0x9E3779B97F4A7C15")
	shifted(29)
	times("0xBF58476D1CE4E5B9")
	shifted(32)
	return x.Uint64()
}

// wantAll looks for an error, and nothing else, from every call with a table; Equal is asked with v in either place and in both, beside the sound value.
func wantAll(t *testing.T, ts []api.Type, i int, v, sound []api.Cell, want api.Errno) {
	t.Helper()
	for _, c := range [][2][]api.Cell{{v, sound}, {sound, v}, {v, v}} {
		if ok, e := equal.Equal(ts, i, c[0], c[1]); ok || e != want {
			t.Errorf("Equal(type %d, %s, %s) = %v, %d, want false, %d", i, show(c[0]), show(c[1]), ok, e, want)
		}
	}
	for _, seed := range ends() {
		if h, e := equal.Hash(ts, i, v, seed, seed+1); h != 0 || e != want {
			t.Errorf("Hash(type %d, %s, %d) = %d, %d, want 0, %d", i, show(v), seed, h, e, want)
		}
	}
	if ok, e := equal.Self(ts, i, v); ok || e != want {
		t.Errorf("Self(type %d, %s) = %v, %d, want false, %d", i, show(v), ok, e, want)
	}
}
