package cells_test

import (
	"fmt"
	"math"
	"reflect"
	"slices"
	"testing"

	"heddle/api"
	"heddle/cells"
)

func wantPart(t *testing.T, i int, v []api.Cell, at int, want []api.Cell) {
	t.Helper()
	if p, e := cells.Part(table(), i, v, at); !sameCells(p, want) || e != api.OK {
		t.Errorf("Part(type %d, %v, %d) = %v, %d, want %v", i, v, at, p, e, want)
	}
}

func wantPut(t *testing.T, i int, v []api.Cell, at int, w, want []api.Cell) {
	t.Helper()
	if p, e := cells.Put(table(), i, v, at, w); !sameCells(p, want) || e != api.OK {
		t.Errorf("Put(type %d, %v, %d, %v) = %v, %d, want %v", i, v, at, w, p, e, want)
	}
}

// P3.4: the chapter's second example.
func TestSecondExample(t *testing.T) {
	wantPart(t, pairs, join(pair(0, ""), pair(7, "x")), 1, pair(7, "x"))
	wantNoPart(t, table(), anInt, num(0), 0, api.ErrKind)
	wantNoPart(t, table(), aPair, pair(7, "x"), 2, api.ErrRange)
}

// P3.4: each part of structs and arrays.
func TestParts(t *testing.T) {
	one := join(holding(aPair, pair(1, "a")), pair(2, "b"), num(1))
	two := join(holding(single, holding(aBool, num(1))), pair(3, "c"), num(0))
	wantPart(t, aPair, pair(5, "x"), 0, num(5))
	wantPart(t, aPair, pair(5, "x"), 1, text("x"))
	wantPart(t, mixed, one, 0, holding(aPair, pair(1, "a")))
	wantPart(t, mixed, one, 1, pair(2, "b"))
	wantPart(t, mixed, one, 2, num(1))
	wantPart(t, mixes, join(one, two), 0, one)
	wantPart(t, mixes, join(one, two), 1, two)
	wantPart(t, lastType, num(8), 0, num(8))
	v := make([]api.Cell, 16)
	for i := range v {
		v[i] = holding(anInt, num(uint64(i)))[0]
	}
	wantPart(t, wrapped, v, 0, v)
	for i := range v {
		wantPart(t, sixteen, v, i, v[i:i+1])
	}
	wantPart(t, single, chain(255), 0, chain(255))
}

// P3.4: a part in its place, and all else as it was.
func TestPuts(t *testing.T) {
	one := join(holding(aPair, pair(1, "a")), pair(2, "b"), num(1))
	two := join(holding(single, holding(aBool, num(1))), pair(3, "c"), num(0))
	wantPut(t, aPair, pair(5, "x"), 0, num(6), pair(6, "x"))
	wantPut(t, aPair, pair(5, "x"), 1, text("y"), pair(5, "y"))
	wantPut(t, mixed, one, 0, num(0), join(num(0), pair(2, "b"), num(1)))
	wantPut(t, mixed, one, 0, holding(aPair, pair(4, "d")), join(holding(aPair, pair(4, "d")), pair(2, "b"), num(1)))
	wantPut(t, mixed, one, 1, pair(9, "e"), join(one[:1], pair(9, "e"), num(1)))
	wantPut(t, mixed, one, 2, num(0), join(one[:3], num(0)))
	wantPut(t, mixes, join(one, two), 0, two, join(two, two))
	wantPut(t, mixes, join(one, two), 1, one, join(one, one))
	wantPut(t, lastType, num(8), 0, num(9), num(9))
	for i := range 16 {
		want := make([]api.Cell, 16)
		want[i] = holding(anInt, num(5))[0]
		wantPut(t, sixteen, make([]api.Cell, 16), i, want[i:i+1], want)
		wantPut(t, wrapped, make([]api.Cell, 16), 0, want, want)
	}
}

// P3.4: kinds without parts, and numbers that no part has.
func TestNoParts(t *testing.T) {
	for _, i := range []int{anInt, aStr, aPtr, aMap, anIter, anIface, aFloat, aBool} {
		for _, at := range []int{math.MinInt, -1, 0, 1, math.MaxInt} {
			wantNoPart(t, table(), i, num(0), at, api.ErrKind)
			for _, w := range [][]api.Cell{num(0), num(2), nil, chain(300)} {
				wantNoPut(t, table(), i, num(0), at, w, api.ErrKind)
			}
		}
	}
	wantNoPart(t, table(), anIface, holding(aPair, pair(1, "x")), 0, api.ErrKind)
	for i, count := range map[int]int{aPair: 2, pairs: 2, mixed: 3, mixes: 2, sixteen: 16, wrapped: 1, single: 1, lastType: 1} {
		v, _ := cells.Zero(table(), i)
		for _, at := range []int{math.MinInt, -1, count, count + 1, count + 15, 1 << 32, math.MaxInt} {
			wantNoPart(t, table(), i, v, at, api.ErrRange)
			for _, w := range [][]api.Cell{num(0), nil, chain(300), v} {
				wantNoPut(t, table(), i, v, at, w, api.ErrRange)
			}
		}
	}
}

// P3.4: what is put must be sound for the part's type.
func TestPutsThatAreNotSound(t *testing.T) {
	v := join(num(0), pair(2, "b"), num(1))
	for at, list := range [][][]api.Cell{
		{nil, pair(1, "x"), num(1), text("x"), holding(anIface, num(0)), holding(anIter, num(0)), holding(typeCount, num(0)), holding(anInt, nil), {{Box: num(0)}}, chain(api.MaxCells + 1), itself(), shared(40)},
		{nil, num(1), text("x"), {{S: "x"}, {N: 1}}, join(pair(1, "x"), num(0)), {{}, {N: 1}}, holding(aPair, pair(1, "x")), v, make([]api.Cell, 300)},
		{nil, num(2), text("x"), pair(1, "x"), holding(aBool, num(1))},
	} {
		for _, w := range list {
			wantNoPut(t, table(), mixed, v, at, w, api.ErrForm)
		}
	}
}

// P3.4: a size of MaxCells, and of one more.
func TestPutsThatAreLarge(t *testing.T) {
	v := join(num(0), pair(2, "b"), num(1))
	wantPut(t, mixed, v, 0, chain(253), join(chain(253), v[1:]))
	for _, n := range []int{254, 255, 256} {
		wantNoPut(t, table(), mixed, v, 0, chain(n), api.ErrLarge)
	}
	wantNoPut(t, table(), mixed, v, 0, chain(257), api.ErrForm)
	// What the part held before goes, and does not count.
	largest := join(chain(253), v[1:])
	wantPut(t, mixed, largest, 0, chain(253), largest)
	wantPut(t, mixed, largest, 0, num(0), v)
	wantPut(t, mixed, largest, 1, pair(1, "x"), join(chain(253), pair(1, "x"), num(1)))
	wantNoPut(t, table(), mixed, largest, 0, chain(254), api.ErrLarge)
	wantPut(t, sixteen, wide(256), 15, num(0), wide(256))
	wantPut(t, sixteen, wide(255), 15, holding(single, num(0)), join(wide(255)[:15], holding(single, num(0))))
	wantNoPut(t, table(), sixteen, wide(256), 15, holding(single, num(0)), api.ErrLarge)
	wantNoPut(t, table(), sixteen, wide(255), 15, holding(single, holding(anInt, num(0))), api.ErrLarge)
	wantPut(t, wrapped, wide(256), 0, wide(256), wide(256))
	wantPut(t, single, chain(256), 0, chain(256), chain(256))
}

// draw gives numbers that look like chance, but are the same in each run.
type draw uint64

func (d *draw) below(n int) int {
	*d = *d*6364136223846793005 + 1442695040888963407
	return int(uint64(*d) >> 33 % uint64(n))
}

// value answers a sound value of type i and, as the chapter has it, its text.
func (d *draw) value(i, depth int) ([]api.Cell, string) {
	switch one := table()[i]; one.Kind {
	case api.KBool:
		n := d.below(2)
		return num(uint64(n)), fmt.Sprint(n == 1)
	case api.KInt:
		n := d.below(1000) - 500
		return num(uint64(n)), fmt.Sprint(n)
	case api.KFloat:
		n := d.below(1 << 30)
		return num(uint64(n)), fmt.Sprintf("%016x", n)
	case api.KStr:
		s := []string{"", "a", "}", " ", "a:b"}[d.below(5)]
		return text(s), "'" + s + "'"
	case api.KPtr, api.KMap, api.KIter:
		n := d.below(2)
		return num(uint64(n)), [][]string{{"nil", "ptr"}, {"nil", "map"}, 5: {"nil", "iter"}}[one.Kind-api.KPtr][n]
	case api.KStruct:
		v, s := d.values(one.Fields, depth)
		return v, "{" + s + "}"
	case api.KArray:
		v, s := d.values(slices.Repeat([]int{one.Elem}, one.Len), depth)
		return v, "[" + s + "]"
	}
	held := d.below(typeCount)
	if depth == 0 || held == anIface || held == anIter {
		return num(0), "nil"
	}
	v, s := d.value(held, depth-1)
	return holding(held, v), fmt.Sprintf("%d:%s", held, s)
}

func (d *draw) values(list []int, depth int) (v []api.Cell, s string) {
	for i, one := range list {
		w, more := d.value(one, depth)
		if i > 0 {
			s += " "
		}
		v, s = append(v, w...), s+more
	}
	return v, s
}

// parts answers the types of the parts of type i.
func parts(i int) []int {
	if one := table()[i]; one.Kind == api.KArray {
		return slices.Repeat([]int{one.Elem}, one.Len)
	}
	return table()[i].Fields
}

// P3.1 to P3.4, held against values whose texts and parts are known as they are made.
func TestDrawnValues(t *testing.T) {
	var d draw
	sizes := map[bool]int{}
	for range 3000 {
		i := d.below(typeCount)
		v, s := d.value(i, 3)
		size := countCells(v)
		sizes[size > api.MaxCells]++
		if n := cells.Size(v); n != min(size, 257) {
			t.Errorf("Size(%v) = %d, want %d", v, n, size)
		}
		if size > api.MaxCells {
			wantError(t, table(), i, v, api.ErrForm)
			continue
		}
		wantCheck(t, "a drawn value", i, v, api.OK)
		wantText(t, i, v, s)
		begin := 0
		for at, one := range parts(i) {
			zero, _ := cells.Zero(table(), one)
			end := begin + len(zero)
			wantPart(t, i, v, at, v[begin:end])
			w, _ := d.value(one, 3)
			want := join(v[:begin], w, v[end:])
			switch {
			case countCells(w) > api.MaxCells:
				wantNoPut(t, table(), i, v, at, w, api.ErrForm)
			case countCells(want) > api.MaxCells:
				wantNoPut(t, table(), i, v, at, w, api.ErrLarge)
			default:
				wantPut(t, i, v, at, w, want)
			}
			begin = end
		}
	}
	if sizes[true] < 20 || sizes[false] < 1000 {
		t.Errorf("the drawn values are too much alike: %v", sizes)
	}
}

func countCells(v []api.Cell) int {
	n := len(v)
	for _, c := range v {
		n += countCells(c.Box)
	}
	return n
}

// roomy answers a copy of v whose lists have spare room that is not zero.
func roomy(v []api.Cell) []api.Cell {
	list := make([]api.Cell, 0, len(v)+2)
	for _, c := range v {
		if len(c.Box) > 0 {
			c.Box = roomy(c.Box)
		}
		list = append(list, c)
	}
	return append(list, api.Cell{N: 77, S: "room", T: 78}, api.Cell{N: 79, Box: num(80)})[:len(v)]
}

// deep answers a copy of v with all spare room of its lists.
func deep(v []api.Cell) []api.Cell {
	v = slices.Clone(v[:cap(v)])
	for i, c := range v {
		v[i].Box = deep(c.Box)
	}
	return v
}

// deepTable answers a copy of a table with all spare room of its lists.
func deepTable(ts []api.Type) []api.Type {
	ts = slices.Clone(ts[:cap(ts)])
	for i, one := range ts {
		ts[i].Fields = slices.Clone(one.Fields[:cap(one.Fields)])
	}
	return ts
}

// spoil overwrites v, its boxes and their spare room.
func spoil(v []api.Cell) {
	v = v[:cap(v)]
	for i := range v {
		spoil(v[i].Box)
		v[i] = api.Cell{N: 91, S: "spoiled", T: 92}
	}
}

// places answers where all cells of v, its boxes and their spare room lie.
func places(v []api.Cell) (list []*api.Cell) {
	v = v[:cap(v)]
	for i := range v {
		list = append(append(list, &v[i]), places(v[i].Box)...)
	}
	return list
}

// wantOwn looks whether no two cells of answers lie at one place.
func wantOwn(t *testing.T, what string, answers ...[]api.Cell) {
	t.Helper()
	seen := map[*api.Cell]bool{}
	for _, v := range answers {
		for _, p := range places(v) {
			if seen[p] {
				t.Errorf("%s: two lists share memory", what)
				return
			}
			seen[p] = true
		}
	}
}

// R4: tables and values stay as they are, boxes and spare room too, and answers have memory of their own.
func TestMemory(t *testing.T) {
	box := holding(aPair, pair(1, "a"))
	v := roomy(join(box, pair(2, "b"), num(1), holding(single, box), pair(3, "c"), num(0)))
	w := roomy(join(holding(single, box), pair(4, "d"), num(1)))
	ts := append(table(), api.Type{Kind: 93})[:typeCount]
	ts[mixed].Fields = append(ts[mixed].Fields, 94, 95)[:3]
	beforeV, beforeW, beforeTs := deep(v), deep(w), deepTable(ts)
	cells.Check(ts, mixes, v)
	cells.Size(v)
	cells.Same(v, w)
	if _, e := cells.Text(ts, mixes, v); e != api.OK {
		t.Fatalf("Text: %d", e)
	}
	zero, _ := cells.Zero(ts, mixes)
	zeroAgain, _ := cells.Zero(ts, mixes)
	part, _ := cells.Part(ts, mixes, v, 1)
	partAgain, _ := cells.Part(ts, mixes, v, 1)
	put, _ := cells.Put(ts, mixes, v, 0, w)
	putAgain, e := cells.Put(ts, mixes, v, 0, w)
	if e != api.OK {
		t.Fatalf("Put: %d", e)
	}
	wantOwn(t, "Zero, Part, Put", zero, zeroAgain, part, partAgain, put, putAgain, v, w)
	for _, answer := range [][]api.Cell{zero, part, put} {
		spoil(answer)
	}
	if !reflect.DeepEqual(deep(v), beforeV) || !reflect.DeepEqual(deep(w), beforeW) {
		t.Errorf("values that were handed in have changed: %v, %v", v, w)
	}
	if !reflect.DeepEqual(deepTable(ts), beforeTs) {
		t.Errorf("the table that was handed in has changed: %v", ts)
	}
	wantText(t, mixed, partAgain, "{14:[2:{1 'a'}] {3 'c'} false}")
	wantText(t, mixes, putAgain, "[{14:[2:{1 'a'}] {4 'd'} true} {14:[2:{1 'a'}] {3 'c'} false}]")
}

// R4: boxes that lie in one another's memory come apart in an answer.
func TestSharedBoxesComeApart(t *testing.T) {
	held := pair(1, "a")
	cell := holding(aPair, held)[0]
	v := slices.Repeat([]api.Cell{cell}, 16)
	part, _ := cells.Part(table(), wrapped, v, 0)
	wantOwn(t, "Part", part, held)
	put, _ := cells.Put(table(), sixteen, v, 3, v[3:4])
	wantOwn(t, "Put", put, held)
	if !sameCells(part, v) || !sameCells(put, v) {
		t.Errorf("Part %v, Put %v, want %v", part, put, v)
	}
}
