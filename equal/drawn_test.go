package equal_test

import (
	"math"
	"slices"
	"testing"

	"heddle/api"
	"heddle/equal"
)

// draw gives numbers that look like chance, but are the same in each run.
type draw uint64

func (d *draw) next() uint64 {
	*d = *d*6364136223846793005 + 1442695040888963407
	x := uint64(*d)
	return x>>33 ^ x<<17
}

func (d *draw) below(n int) int {
	*d = *d*6364136223846793005 + 1442695040888963407
	return int(uint64(*d) >> 33 % uint64(n))
}

func pick[T any](d *draw, list ...T) T {
	return list[d.below(len(list))]
}

// value answers a sound value of type i, of few numbers and texts, so that many are equal.
func (d *draw) value(i, depth int) []api.Cell {
	switch one := table()[i]; one.Kind {
	case api.KBool, api.KPtr, api.KMap, api.KIter:
		return num(uint64(d.below(2)))
	case api.KInt:
		return num(pick(d, 0, 1, 1<<63, nan, math.MaxUint64))
	case api.KFloat:
		return num(d.float())
	case api.KStr:
		return text(pick(d, "", "a", "\x00", "\xff", "ab"))
	case api.KStruct:
		return d.values(one.Fields, depth)
	case api.KArray:
		return d.values(slices.Repeat([]int{one.Elem}, one.Len), depth)
	}
	held := pick(d, anInt, aMap, aFloat, aFloat, marked, aBool, aStr, aPtr, withMap, aPair, twin, floats, measure, measure, single, single, mixed)
	if depth == 0 || d.below(4) == 0 {
		return num(0)
	}
	return holding(held, d.value(held, depth-1))
}

func (d *draw) values(list []int, depth int) (v []api.Cell) {
	for _, i := range list {
		v = append(v, d.value(i, depth)...)
	}
	return v
}

// float answers a nan now and then.
func (d *draw) float() uint64 {
	if d.below(8) == 0 {
		return pick(d, nans...)
	}
	return pick(d, 0, negative, one, infinity)
}

// changed answers a copy of v, a value of type i, in which zeros have other signs and, now and then, a cell is another.
func (d *draw) changed(i int, v []api.Cell, depth, often int) []api.Cell {
	v = copied(v)
	for at, leaf := range leaves(i) {
		switch {
		case d.below(often) == 0:
			v[at] = d.value(leaf, depth)[0]
		case table()[leaf].Kind == api.KFloat && v[at].N<<1 == 0:
			v[at].N = pick(d, 0, negative)
		case v[at].T > 0:
			v[at].Box = d.changed(v[at].T-1, v[at].Box, depth-1, often)
		}
	}
	return v
}

// leaves answers the types of the cells of type i.
func leaves(i int) (list []int) {
	inner := table()[i].Fields
	if table()[i].Kind == api.KArray {
		inner = slices.Repeat([]int{table()[i].Elem}, table()[i].Len)
	}
	if inner == nil {
		return []int{i}
	}
	for _, one := range inner {
		list = append(list, leaves(one)...)
	}
	return list
}

// fact is a number, a float, a text or a type in a value, told as something that the language itself compares.
type fact struct {
	what   string
	number uint64
	float  float64
	text   string
	spoilt bool // a type that can't be compared
}

// facts tells all of a value's cells in order, boxes included: of equal values they are the same.
func facts(i int, v []api.Cell) (list []fact) {
	for at, leaf := range leaves(i) {
		c := v[at]
		switch table()[leaf].Kind {
		case api.KFloat:
			list = append(list, fact{what: "float", number: c.N, float: math.Float64frombits(c.N)})
		case api.KStr:
			list = append(list, fact{what: "text", text: c.S})
		case api.KIface:
			list = append(list, fact{what: "type", number: uint64(c.T), spoilt: c.T > 0 && slices.Contains(uncompared, c.T-1)})
			if c.T > 0 {
				list = append(list, facts(c.T-1, c.Box)...)
			}
		default:
			list = append(list, fact{what: "number", number: c.N})
		}
	}
	return list
}

// modelEqual goes through both values' facts up to the first that decides.
func modelEqual(i int, v, w []api.Cell) (bool, api.Errno) {
	of := facts(i, w)
	for n, a := range facts(i, v) {
		b := of[n]
		if a.what == "float" {
			a.number, b.number = 0, 0
		}
		if a != b {
			return false, api.OK
		}
		if a.spoilt {
			return false, api.ErrHash
		}
	}
	return true, api.OK
}

// modelHash folds the facts, one behind the other.
func modelHash(i int, v []api.Cell, seed, salt uint64) (uint64, api.Errno) {
	h := seed
	fold := func(x uint64) { h = modelMix(h ^ x) }
	for _, f := range facts(i, v) {
		switch {
		case f.spoilt:
			return 0, api.ErrHash
		case f.what == "text":
			for _, b := range []byte(f.text) {
				fold(uint64(b) + 1)
			}
			fold(uint64(len(f.text)))
		case f.what == "float" && f.float == 0:
			fold(0)
		case f.what == "float" && f.float != f.float:
			fold(salt)
		default:
			fold(f.number)
		}
	}
	return h, api.OK
}

func isNan(f fact) bool {
	return f.what == "float" && f.float != f.float
}

func isSpoilt(f fact) bool {
	return f.spoilt
}

// modelSelf asks for what can't be compared, and then for a nan.
func modelSelf(i int, v []api.Cell) (bool, api.Errno) {
	if slices.ContainsFunc(facts(i, v), isSpoilt) {
		return false, api.ErrHash
	}
	return !slices.ContainsFunc(facts(i, v), isNan), api.OK
}

// drawn calls one for so many drawn pairs of values of types that can be compared. Many of the pairs are equal.
func drawn(pairs int, one func(d *draw, i int, v, w []api.Cell)) {
	var d draw
	for range pairs {
		i := d.below(typeCount)
		v := d.value(i, 3)
		w := d.changed(i, v, 3, pick(&d, 4, 30, 10000))
		if !slices.Contains(uncompared, i) && countCells(v) <= api.MaxCells && countCells(w) <= api.MaxCells {
			one(&d, i, v, w)
		}
	}
}

func countCells(v []api.Cell) int {
	n := len(v)
	for _, c := range v {
		n += countCells(c.Box)
	}
	return n
}

// P10.1, P10.2, P10.3: drawn values, held against the chapter's words written out in another way.
func TestDrawnValues(t *testing.T) {
	type answer struct {
		ok bool
		e  api.Errno
	}
	pairsSeen, selvesSeen := map[answer]int{}, map[answer]int{}
	drawn(8000, func(d *draw, i int, v, w []api.Cell) {
		ok, e := modelEqual(i, v, w)
		pairsSeen[answer{ok, e}]++
		wantEqual(t, i, v, w, ok, e)
		ok, e = modelSelf(i, v)
		selvesSeen[answer{ok, e}]++
		wantSelf(t, i, v, ok, e)
		seed, salt := d.next(), d.next()
		want, e := modelHash(i, v, seed, salt)
		if h, got := equal.Hash(table(), i, v, seed, salt); h != want || got != e {
			t.Errorf("Hash(type %d, %s, %d, %d) = %d, %d, want %d, %d", i, show(v), seed, salt, h, got, want, e)
		}
	})
	for _, seen := range []map[answer]int{pairsSeen, selvesSeen} {
		for _, a := range []answer{{true, api.OK}, {false, api.OK}, {false, api.ErrHash}} {
			if seen[a] < 250 {
				t.Errorf("the drawn values are too much alike: %v", seen)
			}
		}
	}
}

// 'What follows': equal values that equal themselves have one hash, whatever the seed.
func TestEqualValuesHaveOneHash(t *testing.T) {
	count := 0
	drawn(8000, func(d *draw, i int, v, w []api.Cell) {
		same, _ := equal.Equal(table(), i, v, w)
		self, _ := equal.Self(table(), i, v)
		if !same {
			return
		}
		if other, e := equal.Self(table(), i, w); !self || !other || e != api.OK {
			t.Errorf("type %d: %s and %s are equal, but not to themselves", i, show(v), show(w))
		}
		count++
		for _, seed := range append(ends(), d.next()) {
			if x, y := hash(t, i, v, seed, d.next()), hash(t, i, w, seed, d.next()); x != y {
				t.Errorf("type %d, seed %d: %s and %s are equal, but their hashes are %d and %d", i, seed, show(v), show(w), x, y)
			}
		}
	})
	if count < 1000 {
		t.Errorf("only %d pairs were equal", count)
	}
}

// 'What follows': the salt shows in values alone that hold a nan, which are just those that have a hash and don't equal themselves.
func TestSaltShowsInNansAlone(t *testing.T) {
	count := map[bool]int{}
	drawn(8000, func(d *draw, i int, v, w []api.Cell) {
		self, e := equal.Self(table(), i, v)
		if e != api.OK {
			return
		}
		count[self]++
		seed := pick(d, append(ends(), d.next())...)
		a, b := pick(d, ends()...), d.next()
		if x, y := hash(t, i, v, seed, a), hash(t, i, v, seed, b); (x == y) != self {
			t.Errorf("type %d, %s, seed %d: salt %d gives %d, salt %d %d", i, show(v), seed, a, x, b, y)
		}
	})
	if count[true] < 1000 || count[false] < 250 {
		t.Errorf("the drawn values are too much alike: %v", count)
	}
}
