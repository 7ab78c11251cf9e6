package probe_test

import (
	"math"
	"testing"

	"heddle/api"
	"heddle/probe"
)

// The chapter's example.
func TestExample(t *testing.T) {
	wantSeq(t, 5, 8, []int{5, 6, 0, 3, 7, 4, 2, 1})
	wantSeq(t, 0, 1, []int{0})
	wantNoSeq(t, 0, 3)
	wantPlace(t, 5, 8, 3, 3, api.OK)
}

// P13.1, P13.2: orders written out.
func TestOrders(t *testing.T) {
	for _, o := range []struct {
		h1    uint64
		order []int
	}{
		{0, []int{0}},
		{1, []int{0}},
		{math.MaxUint64, []int{0}},
		{0, []int{0, 1}},
		{1, []int{1, 0}},
		{2, []int{0, 1}},
		{math.MaxUint64, []int{1, 0}},
		{0, []int{0, 1, 3, 2}},
		{3, []int{3, 0, 2, 1}},
		{4, []int{0, 1, 3, 2}},
		{1 << 63, []int{0, 1, 3, 2}},
		{math.MaxUint64, []int{3, 0, 2, 1}},
		{0, []int{0, 1, 3, 6, 2, 7, 5, 4}},
		{5, []int{5, 6, 0, 3, 7, 4, 2, 1}},
		{7, []int{7, 0, 2, 5, 1, 6, 4, 3}},
		{8, []int{0, 1, 3, 6, 2, 7, 5, 4}},
		{1<<63 + 5, []int{5, 6, 0, 3, 7, 4, 2, 1}},
		{math.MaxUint64, []int{7, 0, 2, 5, 1, 6, 4, 3}},
		{0, []int{0, 1, 3, 6, 10, 15, 5, 12, 4, 13, 7, 2, 14, 11, 9, 8}},
		{15, []int{15, 0, 2, 5, 9, 14, 4, 11, 3, 12, 6, 1, 13, 10, 8, 7}},
		{math.MaxUint64 - 15, []int{0, 1, 3, 6, 10, 15, 5, 12, 4, 13, 7, 2, 14, 11, 9, 8}},
	} {
		wantOrder(t, o.h1, len(o.order), o.order)
	}
}

// P13.1, P13.2: the first and the last places of the greatest table, written out.
func TestMaxGroups(t *testing.T) {
	const groups = 4096
	if groups != api.MaxGroups {
		t.Fatalf("MaxGroups is %d", api.MaxGroups)
	}
	for _, p := range []struct {
		h1   uint64
		i, g int
	}{
		{0, 0, 0}, {0, 1, 1}, {0, 2, 3}, {0, 3, 6}, {0, 90, 4095}, {0, 91, 90}, {0, 4094, 2049}, {0, 4095, 2048},
		{4095, 0, 4095}, {4095, 1, 0}, {4095, 2, 2}, {4095, 4095, 2047},
		{4096, 0, 0}, {4096, 4095, 2048},
		{math.MaxUint64, 0, 4095}, {math.MaxUint64, 1, 0}, {math.MaxUint64, 4094, 2048}, {math.MaxUint64, 4095, 2047},
	} {
		wantAt(t, p.h1, groups, p.i, p.g, api.OK)
		wantPlace(t, p.h1, groups, p.g, p.i, api.OK)
	}
}

// P13.2: each number of groups, each place, from each group on in small tables and from the edges and some more in all.
func TestAtAndPlace(t *testing.T) {
	for _, groups := range sizes {
		if groups <= 64 {
			for h1 := range uint64(3 * groups) {
				wantOrder(t, h1, groups, order(h1, groups))
			}
		}
		for _, h1 := range firsts(groups) {
			want := order(h1, groups)
			for i, g := range want {
				wantAt(t, h1, groups, i, g, api.OK)
			}
			// Place may go through all places ahead, so great tables are not looked at in each of them from each h1.
			step := max(groups/128, 1)
			for i := 0; i < groups; i += step {
				wantPlace(t, h1, groups, want[i], i, api.OK)
			}
			wantPlace(t, h1, groups, want[groups-1], groups-1, api.OK)
		}
	}
	wantOrder(t, 0, api.MaxGroups, order(0, api.MaxGroups))
	wantOrder(t, math.MaxUint64, api.MaxGroups, order(math.MaxUint64, api.MaxGroups))
}

// P13.2: drawn places: what At answers leads back by Place, and the other way round.
func TestThereAndBack(t *testing.T) {
	d := draw(13)
	for range 20000 {
		h1, groups := d.next(), sizes[d.next()%uint64(len(sizes))]
		n := int(d.next() % uint64(groups))
		g, e := probe.At(h1, groups, n)
		if e != api.OK || g < 0 || g >= groups {
			t.Fatalf("At(%d, %d, %d) = %d, %d", h1, groups, n, g, e)
		}
		wantPlace(t, h1, groups, g, n, api.OK)
		i, e := probe.Place(h1, groups, n)
		if e != api.OK || i < 0 || i >= groups {
			t.Fatalf("Place(%d, %d, %d) = %d, %d", h1, groups, n, i, e)
		}
		wantAt(t, h1, groups, i, n, api.OK)
	}
}

// P13.2: an h1 counts mod groups alone, and the place number 0 is its group.
func TestFirstPlace(t *testing.T) {
	for _, groups := range sizes {
		for g := range groups {
			for _, turns := range []uint64{0, 1, 2, 1 << 20, math.MaxUint64/uint64(groups) - 1, math.MaxUint64 / uint64(groups)} {
				h1 := turns*uint64(groups) + uint64(g)
				wantAt(t, h1, groups, 0, g, api.OK)
				wantPlace(t, h1, groups, g, 0, api.OK)
			}
		}
	}
}
