package probe_test

import (
	"iter"
	"math"
	"slices"
	"testing"

	"heddle/api"
	"heddle/probe"
)

// sizes are all numbers of groups that the chapter allows.
var sizes = []int{1, 2, 4, 8, 16, 32, 64, 128, 256, 512, 1024, 2048, 4096}

// firsts answers numbers by which an order begins: the edges of so many groups, and of the numbers themselves.
func firsts(groups int) []uint64 {
	g := uint64(groups)
	return []uint64{
		0, 1, 5, g - 1, g, g + 1, 2*g - 1, 2 * g, 0x0123456789ABCDEF,
		math.MaxInt32, math.MaxUint32, 1 << 32, math.MaxInt64, 1 << 63, 1<<63 + 1,
		math.MaxUint64 - g, math.MaxUint64 - g + 1, math.MaxUint64 - 1, math.MaxUint64,
	}
}

// order goes by the chapter's words, place by place.
func order(h1 uint64, groups int) []int {
	places := []int{int(h1 % uint64(groups))}
	for i := 0; i+1 < groups; i++ {
		places = append(places, (places[i]+i+1)%groups)
	}
	return places
}

func wantSeq(t *testing.T, h1 uint64, groups int, want []int) {
	t.Helper()
	seq, e := probe.Seq(h1, groups)
	if seq == nil || e != api.OK {
		t.Fatalf("Seq(%d, %d): nil %t, %d", h1, groups, seq == nil, e)
	}
	if got := slices.Collect(seq); !slices.Equal(got, want) {
		t.Fatalf("Seq(%d, %d): %v, want %v", h1, groups, got, want)
	}
}

func wantAt(t *testing.T, h1 uint64, groups, i, want int, errno api.Errno) {
	t.Helper()
	if g, e := probe.At(h1, groups, i); g != want || e != errno {
		t.Fatalf("At(%d, %d, %d) = %d, %d, want %d, %d", h1, groups, i, g, e, want, errno)
	}
}

func wantPlace(t *testing.T, h1 uint64, groups, g, want int, errno api.Errno) {
	t.Helper()
	if i, e := probe.Place(h1, groups, g); i != want || e != errno {
		t.Fatalf("Place(%d, %d, %d) = %d, %d, want %d, %d", h1, groups, g, i, e, want, errno)
	}
}

// wantOrder looks at a whole order by all three calls.
func wantOrder(t *testing.T, h1 uint64, groups int, want []int) {
	t.Helper()
	wantSeq(t, h1, groups, want)
	for i, g := range want {
		wantAt(t, h1, groups, i, g, api.OK)
		wantPlace(t, h1, groups, g, i, api.OK)
	}
}

// take answers what comes before a loop over seq is left behind so many.
func take(seq iter.Seq[int], count int) (got []int) {
	for g := range seq {
		got = append(got, g)
		if len(got) == count {
			break
		}
	}
	return got
}

// draw gives numbers that look like chance, but are the same in each run.
type draw uint64

func (d *draw) next() uint64 {
	*d = *d*6364136223846793005 + 1442695040888963407
	x := uint64(*d)
	x = (x ^ x>>32) * 0x9E3779B97F4A7C15
	return x ^ x>>29
}
