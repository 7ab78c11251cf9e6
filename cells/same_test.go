package cells_test

import (
	"math"
	"testing"

	"heddle/api"
	"heddle/cells"
)

func wantSame(t *testing.T, what string, v, w []api.Cell, want bool) {
	t.Helper()
	if cells.Same(v, w) != want || cells.Same(w, v) != want {
		t.Errorf("Same, %s: %v, want %v", what, !want, want)
	}
}

// P3.2: each of these lists is the same as itself alone, sound or not.
func TestSame(t *testing.T) {
	lists := func() [][]api.Cell {
		return [][]api.Cell{
			{},
			num(0),
			num(1),
			num(1 << 63),
			num(math.MaxUint64),
			{{}, {}},
			{{N: 1}, {}},
			{{}, {N: 1}},
			text("x"),
			text("\x00"),
			text("xy"),
			{{T: 1}},
			{{T: -1}},
			{{T: 1, Box: num(0)}},
			{{T: 2, Box: num(0)}},
			{{T: 1, Box: num(1)}},
			{{T: 1, Box: text("x")}},
			{{T: 1, Box: []api.Cell{{}, {}}}},
			{{Box: num(0)}},
			{{Box: num(0)}, {}},
			{{}, {Box: num(0)}},
			{{Box: []api.Cell{{Box: num(0)}}}},
			{{Box: []api.Cell{{Box: num(1)}}}},
			{{Box: num(0)}, {Box: num(0)}},
			{{Box: num(0)}, {Box: num(1)}},
			{{Box: num(1)}, {Box: num(0)}},
			chain(300),
			chain(301),
			chain(60000),
			make([]api.Cell, 5000),
			append(make([]api.Cell, 4999), api.Cell{N: 1}),
		}
	}
	again := lists()
	for i, v := range lists() {
		for j, w := range again {
			wantSame(t, "list by list", v, w, i == j)
		}
	}
}

// P3.2: nil and empty are the same.
func TestSameOfNilAndEmpty(t *testing.T) {
	wantSame(t, "lists", nil, []api.Cell{}, true)
	wantSame(t, "nil", nil, nil, true)
	wantSame(t, "boxes", num(5), []api.Cell{{N: 5, Box: []api.Cell{}}}, true)
	wantSame(t, "boxes in boxes", []api.Cell{{T: 1, Box: num(0)}}, []api.Cell{{T: 1, Box: []api.Cell{{Box: []api.Cell{}}}}}, true)
	wantSame(t, "a nil list and one of a cell", nil, num(0), false)
	wantSame(t, "a nil box and one of a cell", num(0), []api.Cell{{Box: num(0)}}, false)
}

// P3.2: room behind a list does not count, and lists may lie in one another.
func TestSameOfSharedMemory(t *testing.T) {
	v := []api.Cell{{N: 1}, {N: 1}, {N: 1}, {N: 2}}
	wantSame(t, "a list and itself", v, v, true)
	wantSame(t, "pieces that overlap", v[:2], v[1:3], true)
	wantSame(t, "pieces of two lengths", v[:2], v[:3], false)
	wantSame(t, "pieces that overlap and differ", v[1:3], v[2:4], false)
	boxes := []api.Cell{{Box: v[:2]}, {Box: v[:1]}, {Box: v[:2]}}
	wantSame(t, "boxes of one beginning", boxes, []api.Cell{{Box: v[1:3]}, {Box: v[1:2]}, {Box: v[2:4]}}, false)
	wantSame(t, "a short box, and a long one of the same beginning", []api.Cell{{Box: v[:1]}, {Box: v[:2]}}, []api.Cell{{Box: v[2:3]}, {Box: v[2:4]}}, false)
	wantSame(t, "boxes of one beginning and the same", boxes, []api.Cell{{Box: v[1:3]}, {Box: v[1:2]}, {Box: v[:2]}}, true)
}

// P3.2: a box that is held against several others is held against each of them.
func TestSameOfOneBoxAgainstMany(t *testing.T) {
	one := num(1)
	for differing := range 4 {
		v, w := make([]api.Cell, 4), make([]api.Cell, 4)
		for i := range v {
			v[i].Box, w[i].Box = one, num(1)
		}
		wantSame(t, "one against many", v, w, true)
		w[differing].Box = num(2)
		wantSame(t, "one against many, and another", v, w, false)
	}
}

// ring answers a list that holds itself behind n boxes. The last of them has the number last.
func ring(n int, last uint64) []api.Cell {
	first := num(last)
	v := first
	for range n - 1 {
		v = []api.Cell{{Box: v}}
	}
	first[0].Box = v
	return v
}

// R8: lists that hold themselves, and such as share their boxes, come to an end.
func TestSameEnds(t *testing.T) {
	wantSame(t, "itself", itself(), itself(), true)
	v := itself()
	wantSame(t, "itself and its box", v, v[0].Box, true)
	wantSame(t, "itself and a chain", itself(), chain(1000), false)
	wantSame(t, "shared boxes", shared(60), shared(60), true)
	wantSame(t, "shared boxes of two depths", shared(60), shared(61), false)
	wantSame(t, "rings", ring(7, 0), ring(9, 0), true)
	wantSame(t, "large rings", ring(2000, 0), ring(2001, 0), true)
	wantSame(t, "rings that differ", ring(7, 1), ring(9, 1), false)
	wantSame(t, "rings that go round alike", ring(7, 1), ring(7, 1), true)
	wantSame(t, "a ring and one with another number", ring(7, 1), ring(7, 2), false)
}
