package cells_test

import (
	"math"
	"slices"
	"strings"
	"testing"

	"heddle/api"
	"heddle/cells"
)

// The types of the table that the tests take.
const (
	anInt = iota
	aStr
	aPair // of an Int and a Str
	aPtr
	aMap
	pairs // two of them
	anIter
	anIface
	aFloat
	aBool
	mixed    // an interface, a pair, a Bool
	mixes    // two of them
	sixteen  // interfaces, sixteen of them
	wrapped  // a struct of sixteen
	single   // an array of one interface
	lastType // a struct of a Float
	typeCount
)

// table answers the table of the chapter's examples, with some more types behind it.
func table() []api.Type {
	return []api.Type{
		anInt:    {Kind: api.KInt},
		aStr:     {Kind: api.KStr},
		aPair:    {Kind: api.KStruct, Fields: []int{anInt, aStr}},
		aPtr:     {Kind: api.KPtr, Elem: aPtr},
		aMap:     {Kind: api.KMap, Key: aPair, Elem: aPtr},
		pairs:    {Kind: api.KArray, Elem: aPair, Len: 2},
		anIter:   {Kind: api.KIter, Elem: aMap},
		anIface:  {Kind: api.KIface},
		aFloat:   {Kind: api.KFloat},
		aBool:    {Kind: api.KBool},
		mixed:    {Kind: api.KStruct, Fields: []int{anIface, aPair, aBool}},
		mixes:    {Kind: api.KArray, Elem: mixed, Len: 2},
		sixteen:  {Kind: api.KArray, Elem: anIface, Len: 16},
		wrapped:  {Kind: api.KStruct, Fields: []int{sixteen}},
		single:   {Kind: api.KArray, Elem: anIface, Len: 1},
		lastType: {Kind: api.KStruct, Fields: []int{aFloat}},
	}
}

// unsound answers tables that are not sound.
func unsound() [][]api.Type {
	return [][]api.Type{
		append(table(), api.Type{Kind: 11}),
		append(table(), api.Type{}),
		append(table(), api.Type{Kind: api.KInt, Elem: 1}),
		slices.Repeat([]api.Type{{Kind: api.KInt}}, api.MaxTypes+1),
	}
}

// num answers a value of one cell.
func num(n uint64) []api.Cell {
	return []api.Cell{{N: n}}
}

func text(s string) []api.Cell {
	return []api.Cell{{S: s}}
}

func pair(n uint64, s string) []api.Cell {
	return []api.Cell{{N: n}, {S: s}}
}

// holding answers an interface that holds v of type t.
func holding(t int, v []api.Cell) []api.Cell {
	return []api.Cell{{T: t + 1, Box: v}}
}

// join answers the lists one behind the other.
func join(lists ...[]api.Cell) []api.Cell {
	return slices.Concat(lists...)
}

// chain answers an interface of size n, one box in the other.
func chain(n int) []api.Cell {
	v := holding(anInt, num(1))
	for range n - 2 {
		v = holding(single, v)
	}
	return v
}

// wide answers a value of type sixteen and of size n, from 16 to 272: its interfaces hold chains of up to 16 cells, or nothing.
func wide(n int) []api.Cell {
	v := make([]api.Cell, 16)
	n -= len(v)
	for i := range v {
		if n > 0 {
			v[i] = chain(min(n, 16) + 1)[0]
			n -= min(n, 16)
		}
	}
	return v
}

func wantCheck(t *testing.T, what string, i int, v []api.Cell, want api.Errno) {
	t.Helper()
	if e := cells.Check(table(), i, v); e != want {
		t.Errorf("Check, %s: type %d: %d, want %d", what, i, e, want)
	}
}

// wantError looks for an error, and nothing else, from every call with a table and a value.
func wantError(t *testing.T, ts []api.Type, i int, v []api.Cell, want api.Errno) {
	t.Helper()
	if e := cells.Check(ts, i, v); e != want {
		t.Errorf("Check(type %d, %v) = %d, want %d", i, v, e, want)
	}
	if s, e := cells.Text(ts, i, v); s != "" || e != want {
		t.Errorf("Text(type %d, %v) = %s, %d, want nothing, %d", i, v, s, e, want)
	}
	for _, at := range []int{math.MinInt, -1, 0, 1, 2, 16, math.MaxInt} {
		wantNoPart(t, ts, i, v, at, want)
		for _, w := range [][]api.Cell{nil, num(0), text("x"), num(math.MaxUint64), make([]api.Cell, 300)} {
			wantNoPut(t, ts, i, v, at, w, want)
		}
	}
}

func wantNoZero(t *testing.T, ts []api.Type, i int, want api.Errno) {
	t.Helper()
	if v, e := cells.Zero(ts, i); len(v) != 0 || e != want {
		t.Errorf("Zero(type %d) = %v, %d, want nothing, %d", i, v, e, want)
	}
}

func wantNoPart(t *testing.T, ts []api.Type, i int, v []api.Cell, at int, want api.Errno) {
	t.Helper()
	if p, e := cells.Part(ts, i, v, at); len(p) != 0 || e != want {
		t.Errorf("Part(type %d, %v, %d) = %v, %d, want nothing, %d", i, v, at, p, e, want)
	}
}

func wantNoPut(t *testing.T, ts []api.Type, i int, v []api.Cell, at int, w []api.Cell, want api.Errno) {
	t.Helper()
	if p, e := cells.Put(ts, i, v, at, w); len(p) != 0 || e != want {
		t.Errorf("Put(type %d, %v, %d, %v) = %v, %d, want nothing, %d", i, v, at, w, p, e, want)
	}
}

// sameCells holds lists against each other without the program's help. Lists that are nil and empty are the same.
func sameCells(v, w []api.Cell) bool {
	return slices.EqualFunc(v, w, func(c, d api.Cell) bool {
		return c.N == d.N && c.S == d.S && c.T == d.T && sameCells(c.Box, d.Box)
	})
}

// P3.1: the chapter's third example.
func TestThirdExample(t *testing.T) {
	wantCheck(t, "an interface in an interface", anIface, holding(anIface, num(0)), api.ErrForm)
	wantCheck(t, "a Bool of 2", aBool, num(2), api.ErrForm)
}

// P3.1: the numbers of each kind, up to their limits and beyond.
func TestNumbers(t *testing.T) {
	for _, n := range []uint64{0, 1, 2, 3, 1<<31 - 1, 1 << 31, 1<<31 + 1, 1 << 32, 1<<32 + 1, 1<<63 - 1, 1 << 63, math.MaxUint64} {
		is := func(ok bool) api.Errno {
			if ok {
				return api.OK
			}
			return api.ErrForm
		}
		wantCheck(t, "a Bool", aBool, num(n), is(n < 2))
		wantCheck(t, "an Int", anInt, num(n), api.OK)
		wantCheck(t, "a Float", aFloat, num(n), api.OK)
		wantCheck(t, "a Str", aStr, num(n), is(n == 0))
		wantCheck(t, "an interface", anIface, num(n), is(n == 0))
		wantCheck(t, "an interface that holds an Int", anIface, []api.Cell{{N: n, T: anInt + 1, Box: num(n)}}, is(n == 0))
		for _, i := range []int{aPtr, aMap, anIter} {
			wantCheck(t, "a pointer, a map, an iterator", i, num(n), is(n < 1<<31))
		}
	}
}

// P3.1: MaxStr bytes and one more, of any bytes.
func TestTexts(t *testing.T) {
	longest := strings.Repeat("\xff", api.MaxStr)
	wantCheck(t, "the longest", aStr, text(longest), api.OK)
	wantCheck(t, "one more", aStr, text(longest+"x"), api.ErrForm)
	wantCheck(t, "far more", aStr, text(strings.Repeat("x", 1<<20)), api.ErrForm)
	wantCheck(t, "in a pair", aPair, pair(1, longest), api.OK)
	wantCheck(t, "one more in a pair", aPair, pair(1, longest+"x"), api.ErrForm)
	wantCheck(t, "in a box", anIface, holding(aPair, pair(1, longest)), api.OK)
	wantCheck(t, "one more in a box", anIface, holding(aPair, pair(1, longest+"\x00")), api.ErrForm)
	for c := range 256 {
		wantCheck(t, "any byte", aStr, text(string([]byte{byte(c)})), api.OK)
	}
}

// P3.1: what a kind does not name is zero; boxes that are nil and empty both are.
func TestWhatIsNotNamed(t *testing.T) {
	for _, i := range []int{anInt, aStr, aPtr, aMap, anIter, anIface, aFloat, aBool} {
		wantCheck(t, "nothing", i, []api.Cell{{}}, api.OK)
		wantCheck(t, "an empty box", i, []api.Cell{{Box: []api.Cell{}}}, api.OK)
		wantCheck(t, "a box without a type", i, []api.Cell{{Box: num(0)}}, api.ErrForm)
		wantCheck(t, "two cells in a box without a type", i, []api.Cell{{Box: pair(0, "")}}, api.ErrForm)
		if i != aStr {
			wantCheck(t, "a text", i, text("x"), api.ErrForm)
			wantCheck(t, "a byte 0", i, text("\x00"), api.ErrForm)
		}
		if i == anIface {
			continue
		}
		for _, n := range []int{math.MinInt, -1, 1, 2, typeCount, math.MaxInt} {
			wantCheck(t, "a type", i, []api.Cell{{T: n}}, api.ErrForm)
			wantCheck(t, "a type and a box", i, []api.Cell{{T: n, Box: num(0)}}, api.ErrForm)
		}
	}
	wantCheck(t, "a number beside a text", aStr, []api.Cell{{N: 1, S: "x"}}, api.ErrForm)
	wantCheck(t, "a text beside a box", anIface, []api.Cell{{S: "x", T: anInt + 1, Box: num(0)}}, api.ErrForm)
}

// P3.1: what an interface may hold.
func TestInterfaces(t *testing.T) {
	wantCheck(t, "nothing", anIface, num(0), api.OK)
	for i := range typeCount {
		zero, e := cells.Zero(table(), i)
		if e != api.OK {
			t.Fatalf("Zero(%d): %d", i, e)
		}
		want := api.OK
		if i == anIface || i == anIter {
			want = api.ErrForm
		}
		wantCheck(t, "each type", anIface, holding(i, zero), want)
		wantCheck(t, "each type, deep inside", wrapped, join(make([]api.Cell, 15), holding(mixed, join(holding(i, zero), pair(0, ""), num(1)))), want)
		wantCheck(t, "a cell too many", anIface, holding(i, append(zero, api.Cell{})), api.ErrForm)
		wantCheck(t, "a cell too few", anIface, holding(i, zero[1:]), api.ErrForm)
		wantCheck(t, "no cell", anIface, holding(i, nil), api.ErrForm)
	}
	for _, i := range []int{math.MinInt, math.MinInt + 1, -2, typeCount, typeCount + 1, api.MaxTypes, math.MaxInt - 1} {
		wantCheck(t, "no type", anIface, holding(i, num(0)), api.ErrForm)
		wantCheck(t, "no type and no box", anIface, holding(i, nil), api.ErrForm)
	}
	wantCheck(t, "a Bool of 1", anIface, holding(aBool, num(1)), api.OK)
	wantCheck(t, "a Bool of 2", anIface, holding(aBool, num(2)), api.ErrForm)
	wantCheck(t, "a Str for an Int", anIface, holding(anInt, text("x")), api.ErrForm)
	wantCheck(t, "the second field", anIface, holding(aPair, []api.Cell{{}, {N: 1}}), api.ErrForm)
	wantCheck(t, "boxes within boxes", anIface, chain(9), api.OK)
	wantCheck(t, "a fault deep inside", anIface, holding(single, holding(single, holding(aBool, num(2)))), api.ErrForm)
	wantCheck(t, "a fault in a second box", mixes, join(holding(aBool, num(1)), pair(1, "x"), num(1), holding(aBool, num(2)), pair(1, "x"), num(1)), api.ErrForm)
}

// P3.1: as many cells as the type is wide, each of its own kind.
func TestWidths(t *testing.T) {
	widths := []int{1, 1, 2, 1, 1, 4, 1, 1, 1, 1, 4, 8, 16, 16, 1, 1}
	for i, width := range widths {
		for n := range 20 {
			want := api.OK
			if n != width {
				want = api.ErrForm
			}
			wantCheck(t, "zero cells", i, make([]api.Cell, n), want)
		}
		v, e := cells.Zero(table(), i)
		if !sameCells(v, make([]api.Cell, width)) || e != api.OK {
			t.Errorf("Zero(%d) = %v, %d, want %d zero cells", i, v, e, width)
		}
	}
	wantCheck(t, "a nil value", anInt, nil, api.ErrForm)
	wantCheck(t, "the kinds in their order", mixes, join(num(0), pair(5, "x"), num(1), num(0), pair(6, "y"), num(0)), api.OK)
	for at := range 8 {
		v := make([]api.Cell, 8)
		v[at].N = 2
		want := api.ErrForm
		if at%4 == 1 {
			want = api.OK
		}
		wantCheck(t, "a number at each place", mixes, v, want)
		v[at] = api.Cell{S: "x"}
		want = api.ErrForm
		if at%4 == 2 {
			want = api.OK
		}
		wantCheck(t, "a text at each place", mixes, v, want)
		v[at] = holding(aBool, num(1))[0]
		want = api.ErrForm
		if at%4 == 0 {
			want = api.OK
		}
		wantCheck(t, "a box at each place", mixes, v, want)
	}
}

// P3.1: a size of MaxCells, and of one more.
func TestLargest(t *testing.T) {
	wantCheck(t, "a deep one", anIface, chain(api.MaxCells), api.OK)
	wantCheck(t, "a deep one, one more", anIface, chain(api.MaxCells+1), api.ErrForm)
	wantCheck(t, "a deep one, far more", anIface, chain(70000), api.ErrForm)
	wantCheck(t, "a wide one", sixteen, wide(api.MaxCells), api.OK)
	wantCheck(t, "a wide one, more", sixteen, wide(api.MaxCells+1), api.ErrForm)
	wantCheck(t, "many cells", anInt, make([]api.Cell, api.MaxCells), api.ErrForm)
	wantCheck(t, "far too many cells", anInt, make([]api.Cell, 70000), api.ErrForm)
	wantCheck(t, "a box of itself", anIface, itself(), api.ErrForm)
	wantCheck(t, "boxes that are shared", single, shared(40), api.ErrForm)
}

// P3.1: which tables and types there are.
func TestTablesAndTypes(t *testing.T) {
	one := []api.Type{{Kind: api.KBool}}
	if e := cells.Check(one, 0, num(1)); e != api.OK {
		t.Errorf("a table of one: %d", e)
	}
	for _, i := range []int{math.MinInt, -1, 1, math.MaxInt} {
		wantError(t, one, i, num(1), api.ErrArg)
		wantNoZero(t, one, i, api.ErrArg)
	}
	for _, i := range []int{math.MinInt, -1, 0, math.MaxInt} {
		wantError(t, nil, i, nil, api.ErrArg)
		wantError(t, []api.Type{}, i, num(0), api.ErrArg)
		wantNoZero(t, nil, i, api.ErrArg)
	}
	full := slices.Repeat(one, api.MaxTypes)
	full[0] = api.Type{Kind: api.KIface}
	if e := cells.Check(full, 0, holding(api.MaxTypes-1, num(1))); e != api.OK {
		t.Errorf("the last of MaxTypes types: %d", e)
	}
	if e := cells.Check(full, 0, holding(api.MaxTypes, num(1))); e != api.ErrForm {
		t.Errorf("the type behind it: %d", e)
	}
}

// R2, R3: ErrForm for the table, ErrArg, ErrForm for the value; and nothing beside an error.
func TestWhichError(t *testing.T) {
	values := [][]api.Cell{nil, {}, num(0), num(2), text("x"), pair(1, "x"), holding(anInt, num(1)), itself(), shared(40), make([]api.Cell, 300)}
	for _, v := range values {
		for _, ts := range unsound() {
			for _, i := range []int{math.MinInt, -1, 0, 2, api.MaxTypes, math.MaxInt} {
				wantError(t, ts, i, v, api.ErrForm)
				wantNoZero(t, ts, i, api.ErrForm)
			}
		}
		for _, i := range []int{math.MinInt, -1, typeCount, typeCount + 1, api.MaxTypes, math.MaxInt} {
			wantError(t, table(), i, v, api.ErrArg)
			wantNoZero(t, table(), i, api.ErrArg)
		}
	}
	for i := range typeCount {
		for _, v := range [][]api.Cell{nil, {}, {{N: 1, S: "x"}}, {{N: 1 << 31, T: 1}}, itself(), shared(40), make([]api.Cell, 300)} {
			wantError(t, table(), i, v, api.ErrForm)
		}
	}
}

// itself answers a list whose box is the list.
func itself() []api.Cell {
	v := holding(single, nil)
	v[0].Box = v
	return v
}

// shared answers a list of one cell above n lists of two, both boxes of each being the next.
func shared(n int) []api.Cell {
	v := num(7)
	for range n {
		v = []api.Cell{{T: 1, Box: v}, {T: 1, Box: v}}
	}
	return []api.Cell{{T: 1, Box: v}}
}

// P3.2: the cells and those of all boxes, sound or not.
func TestSize(t *testing.T) {
	for _, c := range []struct {
		v    []api.Cell
		want int
	}{
		{nil, 0},
		{[]api.Cell{}, 0},
		{num(5), 1},
		{pair(1, "long text"), 2},
		{holding(anInt, num(1)), 2},
		{holding(aPair, pair(1, "x")), 3},
		{[]api.Cell{{T: 5}}, 1},
		{[]api.Cell{{Box: []api.Cell{}}}, 1},
		{[]api.Cell{{Box: num(1)}}, 2},
		{[]api.Cell{{N: 5, S: "x", T: -1, Box: pair(1, "x")}, {}, {Box: num(2)}}, 6},
		{chain(3), 3},
		{chain(api.MaxCells - 1), 255},
		{chain(api.MaxCells), 256},
		{chain(api.MaxCells + 1), 257},
		{chain(api.MaxCells + 2), 257},
		{chain(65000), 257},
		{wide(255), 255},
		{wide(256), 256},
		{wide(257), 257},
		{wide(258), 257},
		{make([]api.Cell, 255), 255},
		{make([]api.Cell, 256), 256},
		{make([]api.Cell, 257), 257},
		{make([]api.Cell, 258), 257},
		{make([]api.Cell, 100000), 257},
		{[]api.Cell{{Box: make([]api.Cell, 255)}}, 256},
		{[]api.Cell{{Box: make([]api.Cell, 256)}}, 257},
		{[]api.Cell{{Box: make([]api.Cell, 300)}}, 257},
		{[]api.Cell{{Box: make([]api.Cell, 300)}, {Box: make([]api.Cell, 300)}}, 257},
		{[]api.Cell{{Box: make([]api.Cell, 100)}, {Box: make([]api.Cell, 154)}}, 256},
		{[]api.Cell{{Box: make([]api.Cell, 100)}, {Box: make([]api.Cell, 155)}}, 257},
		{itself(), 257},
		{shared(3), 1 + 2 + 4 + 8 + 8},
		{shared(6), 1 + 2 + 4 + 8 + 16 + 32 + 64 + 64},
		{shared(7), 257},
		{shared(60), 257},
	} {
		if n := cells.Size(c.v); n != c.want {
			t.Errorf("Size = %d, want %d", n, c.want)
		}
	}
}
