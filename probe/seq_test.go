package probe_test

import (
	"iter"
	"math"
	"slices"
	"testing"

	"heddle/api"
	"heddle/probe"
)

// P13.1: each number of groups, from each group on in small tables and from the edges in all.
func TestSeq(t *testing.T) {
	for _, groups := range sizes {
		if groups <= 256 {
			for h1 := range uint64(3 * groups) {
				wantSeq(t, h1, groups, order(h1, groups))
			}
		}
		for _, h1 := range firsts(groups) {
			wantSeq(t, h1, groups, order(h1, groups))
		}
	}
}

// P13.1: each group comes just once, and no other number.
func TestEachGroupOnce(t *testing.T) {
	d := draw(1)
	for _, groups := range sizes {
		for _, h1 := range append(firsts(groups), d.next(), d.next(), d.next(), d.next()) {
			seq, e := probe.Seq(h1, groups)
			if e != api.OK {
				t.Fatalf("Seq(%d, %d): %d", h1, groups, e)
			}
			came, total := make([]int, groups), 0
			for g := range seq {
				if g < 0 || g >= groups {
					t.Fatalf("Seq(%d, %d) gives %d", h1, groups, g)
				}
				came[g]++
				total++
			}
			if slices.Min(came) != 1 || slices.Max(came) != 1 || total != groups {
				t.Errorf("Seq(%d, %d): %d in all, from %d to %d times each", h1, groups, total, slices.Min(came), slices.Max(came))
			}
		}
	}
}

// P13.1, R6: the same comes each time, from one iterator and from another.
func TestSeqAgain(t *testing.T) {
	for _, groups := range sizes {
		for _, h1 := range []uint64{0, uint64(groups) - 1, uint64(groups), math.MaxUint64} {
			one, _ := probe.Seq(h1, groups)
			other, _ := probe.Seq(h1+1, groups)
			for range 3 {
				if got, want := slices.Collect(one), order(h1, groups); !slices.Equal(got, want) {
					t.Fatalf("Seq(%d, %d): %v, want %v", h1, groups, got, want)
				}
				if got, want := slices.Collect(other), order(h1+1, groups); !slices.Equal(got, want) {
					t.Fatalf("Seq(%d, %d): %v, want %v", h1+1, groups, got, want)
				}
			}
		}
	}
}

// P13.1, R6: a loop that is left gets no more groups, and the next one begins anew.
func TestSeqLeftEarly(t *testing.T) {
	for _, groups := range []int{1, 2, 8, 64, api.MaxGroups} {
		for _, h1 := range []uint64{0, 5, math.MaxUint64} {
			seq, _ := probe.Seq(h1, groups)
			want := order(h1, groups)
			for _, count := range []int{1, 2, 3, groups / 2, groups - 1, groups} {
				if count < 1 || count > groups {
					continue
				}
				if got := take(seq, count); !slices.Equal(got, want[:count]) {
					t.Errorf("Seq(%d, %d), left behind %d: %v, want %v", h1, groups, count, got, want[:count])
				}
				calls := 0
				seq(func(int) bool {
					calls++
					return calls < count
				})
				if calls != count {
					t.Errorf("Seq(%d, %d), left behind %d: %d calls", h1, groups, count, calls)
				}
				if whole := slices.Collect(seq); !slices.Equal(whole, want) {
					t.Errorf("Seq(%d, %d), behind a loop that was left: %v, want %v", h1, groups, whole, want)
				}
			}
		}
	}
}

// P13.1, R6: loops over one iterator within one another, and side by side, don't disturb each other.
func TestSeqWithinOneAnother(t *testing.T) {
	seq, _ := probe.Seq(5, 8)
	want := []int{5, 6, 0, 3, 7, 4, 2, 1}
	var outer []int
	for g := range seq {
		if inner := slices.Collect(seq); !slices.Equal(inner, want) {
			t.Errorf("within the loop at %d: %v, want %v", g, inner, want)
		}
		outer = append(outer, g)
	}
	if !slices.Equal(outer, want) {
		t.Errorf("the loop itself: %v, want %v", outer, want)
	}
	first, stopFirst := iter.Pull(seq)
	second, stopSecond := iter.Pull(seq)
	defer stopFirst()
	defer stopSecond()
	for i := range len(want) + 2 {
		a, okA := first()
		b, okB := second()
		if there := i < len(want); okA != there || okB != there || there && (a != want[i] || b != want[i]) {
			t.Errorf("side by side, number %d: %d, %t and %d, %t", i, a, okA, b, okB)
		}
	}
}
