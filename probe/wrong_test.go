package probe_test

import (
	"math"
	"slices"
	"testing"

	"heddle/api"
	"heddle/probe"
)

// wantNoSeq looks for an error, and for an iterator that gives nothing, however often, but is not nil.
func wantNoSeq(t *testing.T, h1 uint64, groups int) {
	t.Helper()
	seq, e := probe.Seq(h1, groups)
	if seq == nil || e != api.ErrArg {
		t.Fatalf("Seq(%d, %d): nil %t, %d", h1, groups, seq == nil, e)
	}
	for range 2 {
		if got := slices.Collect(seq); len(got) > 0 {
			t.Fatalf("Seq(%d, %d) gives %v beside the error", h1, groups, got)
		}
	}
}

// noSizes answers numbers of groups that the chapter rules out.
func noSizes() []int {
	wrong := []int{
		math.MinInt, math.MinInt + 1, -1 << 62, -1 << 32, math.MinInt32, -8192, -4096, -8, -3, -2, -1, 0,
		2 * api.MaxGroups, 4 * api.MaxGroups, 1 << 16, 1 << 20, 1 << 31, math.MaxInt32, math.MaxUint32, 1 << 32, 1<<32 + 1, 1<<32 + 8, 1 << 62, math.MaxInt - 1, math.MaxInt,
	}
	for n := 3; n < 2*api.MaxGroups; n++ {
		if !slices.Contains(sizes, n) {
			wrong = append(wrong, n)
		}
	}
	return wrong
}

// P13.1, P13.2, R1, R3: numbers of groups that no table has, whatever stands beside them.
func TestNoSize(t *testing.T) {
	for _, groups := range noSizes() {
		for _, h1 := range []uint64{0, 1, 5, math.MaxUint64} {
			wantNoSeq(t, h1, groups)
			for _, n := range []int{math.MinInt, -1, 0, 1, 2, groups - 1, groups, math.MaxInt} {
				wantAt(t, h1, groups, n, 0, api.ErrArg)
				wantPlace(t, h1, groups, n, 0, api.ErrArg)
			}
		}
	}
}

// P13.2, R1, R3: numbers of no place and of no group, beside the last ones that there are.
func TestNoPlace(t *testing.T) {
	for _, groups := range sizes {
		for _, h1 := range firsts(groups) {
			for _, n := range []int{
				math.MinInt, math.MinInt + 1, -1 << 32, math.MinInt32, -2 * groups, -groups - 1, -groups, -2, -1,
				groups, groups + 1, 2*groups - 1, 2 * groups, api.MaxGroups, 2 * api.MaxGroups, math.MaxInt32, 1 << 32, 1<<32 + 1, math.MaxInt - 1, math.MaxInt,
			} {
				wantAt(t, h1, groups, n, 0, api.ErrArg)
				wantPlace(t, h1, groups, n, 0, api.ErrArg)
			}
			want := order(h1, groups)
			wantAt(t, h1, groups, 0, want[0], api.OK)
			wantAt(t, h1, groups, groups-1, want[groups-1], api.OK)
			wantPlace(t, h1, groups, 0, slices.Index(want, 0), api.OK)
			wantPlace(t, h1, groups, groups-1, slices.Index(want, groups-1), api.OK)
		}
	}
}
