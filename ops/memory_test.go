package ops_test

import (
	"reflect"
	"slices"
	"strings"
	"testing"

	"heddle/api"
	"heddle/cells"
	"heddle/ops"
)

// roomy answers a copy of v whose lists have spare room that is not zero.
func roomy(v []api.Cell) []api.Cell {
	list := make([]api.Cell, 0, len(v)+2)
	for _, c := range v {
		if len(c.Box) > 0 {
			c.Box = roomy(c.Box)
		}
		list = append(list, c)
	}
	return append(list, api.Cell{N: 77, S: "room", T: 78}, api.Cell{N: 79, Box: num(80)})[:len(v)]
}

// deep answers a copy of v with all spare room of its lists.
func deep(v []api.Cell) []api.Cell {
	v = slices.Clone(v[:cap(v)])
	for i, c := range v {
		v[i].Box = deep(c.Box)
	}
	return v
}

// roomyTable answers the table, with spare room that is not zero in all its lists.
func roomyTable() []api.Type {
	ts := append(table(), api.Type{Kind: 93})[:typeCount]
	for i, one := range ts {
		ts[i].Fields = append(slices.Clone(one.Fields), 94, 95)[:len(one.Fields)]
	}
	return ts
}

// deepTable answers a copy of a table with all spare room of its lists.
func deepTable(ts []api.Type) []api.Type {
	ts = slices.Clone(ts[:cap(ts)])
	for i, one := range ts {
		ts[i].Fields = slices.Clone(one.Fields[:cap(one.Fields)])
	}
	return ts
}

// spoil overwrites every cell of v, boxes and spare room included.
func spoil(v []api.Cell) {
	v = v[:cap(v)]
	for i := range v {
		spoil(v[i].Box)
		v[i] = api.Cell{N: 99, S: "spoilt", T: 98}
	}
}

// R4: tables, values and cells stay as they are, boxes and spare room too, whatever is answered.
func TestNothingIsChanged(t *testing.T) {
	ts := roomyTable()
	for _, c := range []struct {
		i int
		v []api.Cell
	}{
		{mixed, whole()},
		{sixteen, bush(200)},
		{single, chain(30)},
		{single, chain(api.MaxCells)},
		{anIface, list(holding(mixed, whole()))},
		{aPair, num(1, 2)},
		{typeCount, whole()},
	} {
		v := roomy(c.v)
		before, beforeTs := deep(v), deepTable(ts)
		ops.Box(ts, c.i, v)
		for _, i := range []int{c.i, anInt, anIface, typeCount} {
			ops.Unbox(ts, i, holding(c.i, v))
			ops.Holds(ts, i, holding(c.i, v))
			ops.Unbox(ts, i, v[0])
		}
		for way := range 21 {
			ops.Arith(way, v[0], v[len(v)-1])
			ops.Arith(way, holding(c.i, v), holding(c.i, v))
		}
		if !reflect.DeepEqual(deep(v), before) {
			t.Errorf("type %d: the value that was handed in has changed: %s", c.i, show(v...))
		}
		if !reflect.DeepEqual(deepTable(ts), beforeTs) {
			t.Errorf("type %d: the table that was handed in has changed: %v", c.i, ts)
		}
	}
}

// R4: what is answered shares no list with what was handed in, nor with another answer: each may be overwritten, spare room too.
func TestAnswersAreNew(t *testing.T) {
	for i, each := range values() {
		for _, v := range each {
			mine := roomy(v)
			c, _ := ops.Box(table(), i, mine)
			d, _ := ops.Box(table(), i, mine)
			x, _ := ops.Unbox(table(), i, holding(i, mine))
			y, _ := ops.Unbox(table(), i, holding(i, mine))
			before := deep(mine)
			spoil(c.Box)
			spoil(x)
			if !reflect.DeepEqual(deep(mine), before) {
				t.Errorf("type %d: an answer shares memory with what was handed in, %s", i, show(v...))
			}
			spoil(mine)
			if !cells.Same(d.Box, v) || !cells.Same(y, v) {
				t.Errorf("type %d: two answers of %s share memory", i, show(v...))
			}
		}
	}
}

// R4: lists of one answer share none among each other, though the value that was handed in has one box twice.
func TestListsOfOneAnswer(t *testing.T) {
	inner := list(holding(aPair, pair(1, "x")))
	v := slices.Repeat(list(holding(single, inner)), 16)
	c, _ := ops.Box(table(), sixteen, v)
	x, _ := ops.Unbox(table(), sixteen, holding(sixteen, v))
	for _, got := range [][]api.Cell{c.Box, x} {
		spoil(got[0].Box)
		for at := 1; at < 16; at++ {
			if !cells.Same(got[at].Box, inner) {
				t.Errorf("boxes 0 and %d share memory", at)
			}
		}
	}
}

// R4: nor do its texts.
func TestTextsInBoxesAreNew(t *testing.T) {
	s := strings.Repeat("x", 100)
	v := list(holding(aStr, text(s)))
	c, _ := ops.Box(table(), single, v)
	x, _ := ops.Unbox(table(), single, holding(single, v))
	for _, got := range []string{c.Box[0].Box[0].S, x[0].Box[0].S} {
		if got != s || shares(got, s) {
			t.Errorf("a text in a box is %.20q, or shares memory with what was handed in", got)
		}
	}
}

// R4, R5: what is handed in is not kept: when it changes, so do the answers, and when it is as it was, so are they.
func TestNothingIsKept(t *testing.T) {
	ts := table()
	v := list(holding(aFloat, num(5)))
	c := holding(single, v)
	wantHeld(t, ts, single, c, v)
	v[0].Box[0].N = 6
	wantHeld(t, ts, single, c, list(holding(aFloat, num(6))))
	wantBox(t, ts, single, v)
	ts[aFloat] = api.Type{Kind: api.KBool}
	wantNoHolder(t, ts, single, c, api.ErrForm)
	wantNoBox(t, ts, single, v, api.ErrForm)
	v[0].Box[0].N = 1
	wantHeld(t, ts, single, c, list(holding(aFloat, num(1))))
	ts[single] = api.Type{Kind: api.KIface}
	wantNoHolder(t, ts, single, api.Cell{}, api.ErrKind)
	wantNoHolder(t, ts, anInt, c, api.ErrForm)
	ts[single] = table()[single]
	wantHeld(t, ts, single, c, v)
}

// R4: what Arith answers has no list, though a and b have.
func TestArithAnswersAlone(t *testing.T) {
	a, b := holding(mixed, whole()), holding(mixed, whole())
	a.N, b.N, a.S, b.S = 6, 3, "a", "b"
	for way := api.AddInt; way <= api.OrB; way++ {
		if x, e := ops.Arith(way, a, b); x.S != "" || x.T != 0 || x.Box != nil || e != api.OK {
			t.Errorf("Arith(%d) = %s, %d, want a number alone", way, show(x), e)
		}
	}
}
