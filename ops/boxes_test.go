package ops_test

import (
	"math"
	"slices"
	"strings"
	"testing"

	"heddle/api"
	"heddle/cells"
	"heddle/ops"
)

// wantBox looks for an interface that holds v, and has nothing else.
func wantBox(t *testing.T, ts []api.Type, i int, v []api.Cell) {
	t.Helper()
	c, e := ops.Box(ts, i, v)
	if c.N != 0 || c.S != "" || c.T != i+1 || !cells.Same(c.Box, v) || e != api.OK {
		t.Errorf("Box(type %d, %s) = %s, %d", i, show(v...), show(c), e)
	}
}

func wantNoBox(t *testing.T, ts []api.Type, i int, v []api.Cell, want api.Errno) {
	t.Helper()
	if c, e := ops.Box(ts, i, v); c.N != 0 || c.S != "" || c.T != 0 || c.Box != nil || e != want {
		t.Errorf("Box(type %d, %s) = %s, %d, want nothing, %d", i, show(v...), show(c), e, want)
	}
}

// wantHeld looks for what c holds, from Unbox and Holds.
func wantHeld(t *testing.T, ts []api.Type, i int, c api.Cell, want []api.Cell) {
	t.Helper()
	if v, e := ops.Unbox(ts, i, c); !cells.Same(v, want) || e != api.OK {
		t.Errorf("Unbox(type %d, %s) = %s, %d, want %s", i, show(c), show(v...), e, show(want...))
	}
	if ok, e := ops.Holds(ts, i, c); !ok || e != api.OK {
		t.Errorf("Holds(type %d, %s) = %v, %d, want true", i, show(c), ok, e)
	}
}

// wantNotHeld looks for ErrType from Unbox, where Holds just says no.
func wantNotHeld(t *testing.T, ts []api.Type, i int, c api.Cell) {
	t.Helper()
	if v, e := ops.Unbox(ts, i, c); len(v) != 0 || e != api.ErrType {
		t.Errorf("Unbox(type %d, %s) = %s, %d, want nothing, ErrType", i, show(c), show(v...), e)
	}
	if ok, e := ops.Holds(ts, i, c); ok || e != api.OK {
		t.Errorf("Holds(type %d, %s) = %v, %d, want false", i, show(c), ok, e)
	}
}

// wantNoHolder looks for an error, and nothing else, from Unbox and Holds.
func wantNoHolder(t *testing.T, ts []api.Type, i int, c api.Cell, want api.Errno) {
	t.Helper()
	if v, e := ops.Unbox(ts, i, c); len(v) != 0 || e != want {
		t.Errorf("Unbox(type %d, %s) = %s, %d, want nothing, %d", i, show(c), show(v...), e, want)
	}
	if ok, e := ops.Holds(ts, i, c); ok || e != want {
		t.Errorf("Holds(type %d, %s) = %v, %d, want false, %d", i, show(c), ok, e, want)
	}
}

// P11.3: the chapter's third example, of every type that may be held.
func TestThirdExample(t *testing.T) {
	for _, i := range boxed() {
		wantNotHeld(t, table(), i, api.Cell{})
		wantNotHeld(t, table(), i, api.Cell{Box: []api.Cell{}})
	}
}

// values answers values of each type that may be held.
func values() map[int][][]api.Cell {
	return map[int][][]api.Cell{
		anInt:   {num(0), num(5), num(most), num(least), num(math.MaxUint64)},
		other:   {num(0), num(5)},
		aMap:    {num(0), num(1), num(math.MaxInt32)},
		aFloat:  {num(0), num(minus), num(theNan), num(0xfff0000000000001), num(infinity)},
		aBool:   {num(0), num(1)},
		aStr:    {text(""), text("x"), text("\x00\xff"), text(strings.Repeat("x", api.MaxStr))},
		aPtr:    {num(0), num(1), num(math.MaxInt32)},
		toPtr:   {num(0), num(264)},
		aPair:   {pair(0, ""), pair(7, "y")},
		twin:    {pair(0, ""), pair(7, "y")},
		withMap: {num(0, 0), num(1, 2)},
		single:  {num(0), list(holding(anInt, num(5))), list(holding(single, list(holding(single, num(0)))))},
		sixteen: {make([]api.Cell, 16), bush(40)},
		mixed:   {make([]api.Cell, 9), whole()},
		alone:   {num(0), list(holding(alone, list(holding(mixed, whole()))))},
		pairs:   {make([]api.Cell, 4), join(pair(1, "a"), pair(2, "b"))},
	}
}

// P11.3: values of each kind, boxed, unboxed and asked for: each box holds its own type alone, and its value.
func TestBoxAndUnbox(t *testing.T) {
	if len(values()) != len(boxed()) {
		t.Fatalf("there are values of %d types, not of %d", len(values()), len(boxed()))
	}
	for i, each := range values() {
		for _, v := range each {
			wantBox(t, table(), i, v)
			c, _ := ops.Box(table(), i, v)
			for _, j := range boxed() {
				if i == j {
					wantHeld(t, table(), j, c, v)
				} else {
					wantNotHeld(t, table(), j, c)
				}
			}
		}
	}
}

// P11.3: a box in a box is held by the outer one alone, and comes out whole.
func TestBoxInBox(t *testing.T) {
	v := list(holding(aPair, pair(3, "deep")))
	for range 20 {
		wantBox(t, table(), single, v)
		c := holding(single, v)
		wantHeld(t, table(), single, c, v)
		wantNotHeld(t, table(), alone, c)
		wantNotHeld(t, table(), aPair, c)
		v = list(c)
	}
}

// P11.3: an interface's value of MaxCells cells, its own counted in, and of one more.
func TestBoxOfTooMuch(t *testing.T) {
	for _, c := range []struct {
		i    int
		make func(size int) []api.Cell
	}{
		{single, chain}, {alone, chain}, {sixteen, bush},
		{mixed, func(size int) []api.Cell { return join(make([]api.Cell, 6), chain(size-8), make([]api.Cell, 2)) }},
	} {
		for _, size := range []int{api.MaxCells - 2, api.MaxCells - 1} {
			v := c.make(size)
			wantBox(t, table(), c.i, v)
			wantHeld(t, table(), c.i, holding(c.i, v), v)
			if held, _ := ops.Box(table(), c.i, v); cells.Check(table(), anIface, list(held)) != api.OK {
				t.Errorf("type %d: the interface of a value of %d cells is not sound", c.i, size)
			}
		}
		wantNoBox(t, table(), c.i, c.make(api.MaxCells), api.ErrLarge)
		wantNoBox(t, table(), c.i, c.make(api.MaxCells+1), api.ErrForm)
	}
}

// P11.3: a cell of an interface is sound, if its box is: the box may have MaxCells cells, though no value has such a cell in it.
func TestUnboxOfLargest(t *testing.T) {
	for _, i := range []int{single, alone} {
		wantHeld(t, table(), i, holding(i, chain(api.MaxCells)), chain(api.MaxCells))
		wantNotHeld(t, table(), anInt, holding(i, chain(api.MaxCells)))
		wantNoHolder(t, table(), i, holding(i, chain(api.MaxCells+1)), api.ErrForm)
		wantNoHolder(t, table(), anInt, holding(i, chain(api.MaxCells+1)), api.ErrForm)
	}
}

// P11.3: tables with no KIface, of one type and of as many as there may be.
func TestTablesWithoutInterfaces(t *testing.T) {
	for _, n := range []int{1, 2, api.MaxTypes} {
		ts := slices.Repeat([]api.Type{{Kind: api.KInt}}, n)
		for _, i := range []int{0, n - 1} {
			wantBox(t, ts, i, num(5))
			wantHeld(t, ts, i, holding(i, num(5)), num(5))
			wantNotHeld(t, ts, i, api.Cell{})
			for _, c := range []api.Cell{{N: 1}, {S: "x"}, {Box: num(0)}, holding(i, nil), holding(i, text("x")), holding(n, num(0)), {T: -1, Box: num(0)}} {
				wantNoHolder(t, ts, i, c, api.ErrForm)
			}
		}
		if n > 1 {
			wantNotHeld(t, ts, 0, holding(n-1, num(5)))
		}
		wantNoBox(t, ts, n, num(5), api.ErrArg)
		wantNoHolder(t, ts, n, holding(0, num(5)), api.ErrArg)
	}
	full := slices.Repeat([]api.Type{{Kind: api.KIface}}, api.MaxTypes)
	full[api.MaxTypes-1] = api.Type{Kind: api.KStr}
	wantBox(t, full, api.MaxTypes-1, text("x"))
	wantHeld(t, full, api.MaxTypes-1, holding(api.MaxTypes-1, text("x")), text("x"))
}

// value answers a sound value of type i.
func (d *draw) value(i, depth int) []api.Cell {
	switch one := table()[i]; one.Kind {
	case api.KBool:
		return num(uint64(d.below(2)))
	case api.KPtr, api.KMap, api.KIter:
		return num(pick[uint64](d, 0, 1, 256, math.MaxInt32))
	case api.KInt, api.KFloat:
		return num(pick(d, 0, 1, minus, theNan, math.MaxUint64))
	case api.KStr:
		return text(pick(d, "", "a", "\x00", "\xff", "some text"))
	case api.KStruct:
		return d.values(one.Fields, depth)
	case api.KArray:
		return d.values(slices.Repeat([]int{one.Elem}, one.Len), depth)
	}
	if depth == 0 || d.below(4) == 0 {
		return num(0)
	}
	held := pick(d, boxed()...)
	return list(holding(held, d.value(held, depth-1)))
}

func (d *draw) values(list []int, depth int) (v []api.Cell) {
	for _, i := range list {
		v = append(v, d.value(i, depth)...)
	}
	return v
}

// spoilt answers a copy of an interface's cell, in which something is another, here or deep inside.
func (d *draw) spoilt(c api.Cell) api.Cell {
	c.Box = copied(c.Box)
	if at := len(c.Box); at > 0 && d.below(3) > 0 {
		at = d.below(at)
		c.Box[at] = d.spoilt(c.Box[at])
		return c
	}
	switch d.below(8) {
	case 0:
		c.N = pick[uint64](d, 1, 2, 1<<31, math.MaxUint64)
	case 1:
		c.S = pick(d, "x", strings.Repeat("x", api.MaxStr+1))
	case 2:
		c.T = d.below(typeCount + 2)
	case 3:
		c.T = pick(d, -1, 0, typeCount, typeCount+1, anIface+1, anIter+1, math.MaxInt, math.MinInt)
	case 4:
		c.Box = append(c.Box, api.Cell{})
	case 5:
		c.Box = c.Box[:len(c.Box)/2]
	case 6:
		c.Box = nil
	case 7:
		c.T, c.Box = anInt+1, num(d.next())
	}
	return c
}

// P11.3, held against layer 3's Check of the value that the cell alone is: all errors, in their order, of drawn cells.
func TestDrawnCells(t *testing.T) {
	d := draw(14)
	count := map[api.Errno]int{}
	for range 20000 {
		c, i := d.value(anIface, 4)[0], d.below(typeCount)
		if d.below(2) == 0 {
			c = d.spoilt(c)
		}
		if cells.Size(list(c)) > api.MaxCells {
			continue
		}
		if d.below(3) == 0 {
			i = min(max(c.T-1, 0), typeCount-1)
		}
		switch {
		case cells.Check(table(), anIface, list(c)) != api.OK:
			count[api.ErrForm]++
			wantNoHolder(t, table(), i, c, api.ErrForm)
		case slices.Contains(unboxed, i):
			count[api.ErrKind]++
			wantNoHolder(t, table(), i, c, api.ErrKind)
		case c.T-1 != i:
			count[api.ErrType]++
			wantNotHeld(t, table(), i, c)
		default:
			count[api.OK]++
			wantHeld(t, table(), i, c, c.Box)
			wantBox(t, table(), i, c.Box)
		}
	}
	for _, e := range []api.Errno{api.OK, api.ErrForm, api.ErrKind, api.ErrType} {
		if count[e] < 500 {
			t.Errorf("of the drawn cells only %d are %d", count[e], e)
		}
	}
}
