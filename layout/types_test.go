package layout_test

import (
	"math"
	"slices"
	"strings"
	"testing"

	"heddle/api"
	"heddle/layout"
)

// P16.5: where the parts of structs and arrays begin.
func TestOffset(t *testing.T) {
	want := map[int][]int{
		aPair:  {0, 1},
		pairs:  {0, 3},
		link:   {0, 2},
		single: {0},
		mixed:  {0, 1, 3, 4, 5, 6, 8, 14, 15},
		names:  {0, 1, 3, 4},
		wide:   {0, 1, 2, 3, 4, 5, 6, 7, 8, 9, 10, 11, 12, 13, 14, 15},
		texts:  {0, 2, 4, 6, 8, 10, 12, 14, 16, 18, 20, 22, 24, 26, 28, 30},
	}
	want[sixteen] = want[texts]
	for typ := range typeCount {
		for i := -3; i < 20; i++ {
			n, e := layout.Offset(table(), typ, i)
			list, parted := want[typ]
			switch {
			case !parted:
				if n != 0 || e != api.ErrKind {
					t.Errorf("Offset(%d, %d) = %d, %d, want ErrKind", typ, i, n, e)
				}
			case i < 0 || i >= len(list):
				if n != 0 || e != api.ErrRange {
					t.Errorf("Offset(%d, %d) = %d, %d, want ErrRange", typ, i, n, e)
				}
			case n != list[i] || e != api.OK:
				t.Errorf("Offset(%d, %d) = %d, %d, want %d", typ, i, n, e, list[i])
			}
		}
	}
	for _, i := range []int{math.MinInt, math.MinInt32, 1 << 32, math.MaxInt} {
		if n, e := layout.Offset(table(), aPair, i); n != 0 || e != api.ErrRange {
			t.Errorf("Offset(%d) = %d, %d", i, n, e)
		}
		if n, e := layout.Offset(table(), anInt, i); n != 0 || e != api.ErrKind {
			t.Errorf("Offset(%d) = %d, %d", i, n, e)
		}
	}
}

// P16.5: a part's words stand at its offset.
func TestOffsetInWords(t *testing.T) {
	m := build(t, 64, never)
	v := slices.Concat(num(1), text("s"), num(5, 0, 6), holding(anInt, num(3)), pair(1, "y"), pair(2, "z"), num(0), holding(aBool, num(1)))
	words := saved(t, m, mixed, v)
	cell := 0
	for i, part := range table()[mixed].Fields {
		at, _ := layout.Offset(table(), mixed, i)
		width := len(leaves(part))
		wantLoad(t, m, part, words[at:at+len(shapes[part])], v[cell:cell+width])
		cell += width
	}
}

func named(t *testing.T, typ int, words ...uint64) []int {
	t.Helper()
	seq, e := layout.Named(table(), typ, words)
	if seq == nil || e != api.OK {
		t.Fatalf("Named(%d, %v): nil %t, %d", typ, words, seq == nil, e)
	}
	return slices.Collect(seq)
}

// P16.5: the pointers that are not 0, in order, whatever they name.
func TestNamed(t *testing.T) {
	for typ := range typeCount {
		words, want := make([]uint64, len(shapes[typ])), []int(nil)
		if got := named(t, typ, words...); len(got) != 0 {
			t.Errorf("Named(%d, zeros) = %v", typ, got)
		}
		for i, letter := range shapes[typ] {
			words[i] = uint64(100 - i)
			if letter == 'p' {
				want = append(want, 100-i)
			}
		}
		if got := named(t, typ, words...); !slices.Equal(got, want) {
			t.Errorf("Named(%d, %v) = %v, want %v", typ, words, got, want)
		}
	}
	if got := named(t, names, 5, 0, 7, 5, 9, 0); !slices.Equal(got, []int{5, 5}) {
		t.Errorf("with zeros between: %v", got)
	}
	if got := named(t, link, 1, 1<<63, 2, math.MaxUint64); !slices.Equal(got, []int{math.MinInt, -1}) {
		t.Errorf("beyond int: %v", got)
	}
}

// P16.5: as many words as the type has.
func TestNamedCount(t *testing.T) {
	for typ := range typeCount {
		for n := range len(shapes[typ]) + 3 {
			if n == len(shapes[typ]) {
				continue
			}
			wantNothing(t, table(), typ, make([]uint64, n), api.ErrForm)
			wantNothing(t, table(), typ, slices.Repeat([]uint64{8}, n), api.ErrForm)
		}
		wantNothing(t, table(), typ, nil, api.ErrForm)
	}
}

// wantNothing looks for an error beside an iterator that gives nothing.
func wantNothing(t *testing.T, ts []api.Type, typ int, words []uint64, want api.Errno) {
	t.Helper()
	seq, e := layout.Named(ts, typ, words)
	if seq == nil || e != want || len(slices.Collect(seq)) != 0 {
		t.Fatalf("Named(%d, %v): nil %t, %d, want %d", typ, words, seq == nil, e, want)
	}
}

// R6: the iterator gives the same again, stops at once, and tells what there was at the call.
func TestNamedIterator(t *testing.T) {
	words := []uint64{1, 8, 2, 16}
	seq, _ := layout.Named(table(), link, words)
	words[1], words[3] = 0, 99
	for range 3 {
		if got := slices.Collect(seq); !slices.Equal(got, []int{8, 16}) {
			t.Fatalf("%v", got)
		}
		count := 0
		for n := range seq {
			count += n
			break
		}
		if count != 8 {
			t.Fatalf("left at once: %d", count)
		}
		for n := range seq {
			for inner := range seq {
				count += n * inner
			}
		}
		if count != 8+24*24 {
			t.Fatalf("within one another: %d", count)
		}
	}
}

// What follows: all that a saved value names is named by its words.
func TestNamedOfSaved(t *testing.T) {
	m := build(t, 64, never)
	a := object(t, m, "-", 1)
	w := saved(t, m, names, slices.Concat(num(uint64(a)), text("x"), num(uint64(a)), holding(aStr, text(strings.Repeat("y", 20)))))
	if got := named(t, names, w...); !slices.Equal(got, []int{a, int(w[1]), a, int(w[5])}) {
		t.Fatalf("%v of %v", got, w)
	}
	list := named(t, names, w...)
	if e := m.Collect(list); e != api.OK {
		t.Fatal(e)
	}
	wantTold(t, m, names, slices.Concat(num(uint64(a)), text("x"), num(uint64(a)), holding(aStr, text(strings.Repeat("y", 20)))), w)
}
