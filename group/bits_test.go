package group_test

import (
	"iter"
	"math"
	"slices"
	"testing"

	"heddle/group"
)

// numbersOf answers the numbers of the bits that are set, looked at one by one.
func numbersOf(mask uint64) (numbers []int) {
	for n := 0; mask > 0; n++ {
		if mask%2 == 1 {
			numbers = append(numbers, n)
		}
		mask /= 2
	}
	return numbers
}

// wantBits ranges over the bits three times, the last time by another iterator.
func wantBits(t *testing.T, mask uint64, want []int) {
	t.Helper()
	seq := group.Bits(mask)
	for _, seq := range []iter.Seq[int]{seq, seq, group.Bits(mask)} {
		if seq == nil {
			t.Fatalf("Bits(%#x) is nil", mask)
		}
		if got := slices.Collect(seq); !slices.Equal(got, want) {
			t.Fatalf("Bits(%#x): %v, want %v", mask, got, want)
		}
	}
}

// P12.4: bits written out: none, all, the lowest and the highest, and those of masks.
func TestBits(t *testing.T) {
	every := []int{}
	for n := range 64 {
		every = append(every, n)
	}
	wantBits(t, 0, nil)
	wantBits(t, 1, []int{0})
	wantBits(t, 0xFB, []int{0, 1, 3, 4, 5, 6, 7})
	wantBits(t, 0xFF, every[:8])
	wantBits(t, 0x100, []int{8})
	wantBits(t, 1<<31|1<<32, []int{31, 32})
	wantBits(t, 1<<63, []int{63})
	wantBits(t, 1<<63|1, []int{0, 63})
	wantBits(t, 0x8000000000000005, []int{0, 2, 63})
	wantBits(t, math.MaxUint64, every)
	wantBits(t, math.MaxUint64-1, every[1:])
	wantBits(t, math.MaxInt64, every[:63])
	for n := range 64 {
		wantBits(t, 1<<n, []int{n})
		wantBits(t, ^uint64(1<<n), slices.Concat(every[:n], every[n+1:]))
		wantBits(t, 1<<n-1, every[:n])
		wantBits(t, -(uint64(1) << n), every[n:])
	}
}

// P12.4: all masks of a group, all pairs of bits, and drawn masks with many bits and with few.
func TestBitsOfAnyMask(t *testing.T) {
	for mask := range uint64(0x10000) {
		wantBits(t, mask, numbersOf(mask))
	}
	for low := range 64 {
		for high := low + 1; high < 64; high++ {
			wantBits(t, 1<<low|1<<high, []int{low, high})
		}
	}
	d := draw(4)
	for range 5000 {
		a, b := d.next(), d.next()
		for _, mask := range []uint64{a, a & b, a | b, a & b & d.next(), a << 32, a >> 32} {
			wantBits(t, mask, numbersOf(mask))
		}
	}
}

// P12.4, R6: a loop that is left gets no more bits, and the next one begins anew.
func TestBitsLeftEarly(t *testing.T) {
	for _, mask := range []uint64{1, 1 << 63, 0x8000000000000005, 0xFB, math.MaxUint64, 0x5555555555555555} {
		seq, want := group.Bits(mask), numbersOf(mask)
		for count := 1; count <= len(want); count++ {
			var got []int
			for n := range seq {
				got = append(got, n)
				if len(got) == count {
					break
				}
			}
			if !slices.Equal(got, want[:count]) {
				t.Errorf("Bits(%#x), left behind %d: %v, want %v", mask, count, got, want[:count])
			}
			calls := 0
			seq(func(int) bool {
				calls++
				return calls < count
			})
			if calls != count {
				t.Errorf("Bits(%#x), left behind %d: %d calls", mask, count, calls)
			}
			if whole := slices.Collect(seq); !slices.Equal(whole, want) {
				t.Errorf("Bits(%#x), behind a loop that was left: %v, want %v", mask, whole, want)
			}
		}
	}
}

// P12.4, R6: loops over one iterator within one another, and side by side, don't disturb each other.
func TestBitsWithinOneAnother(t *testing.T) {
	const mask = 0x8000010000000085
	seq, want := group.Bits(mask), []int{0, 2, 7, 40, 63}
	var outer []int
	for n := range seq {
		if inner := slices.Collect(seq); !slices.Equal(inner, want) {
			t.Errorf("within the loop at %d: %v, want %v", n, inner, want)
		}
		outer = append(outer, n)
	}
	if !slices.Equal(outer, want) {
		t.Errorf("the loop itself: %v, want %v", outer, want)
	}
	first, stopFirst := iter.Pull(seq)
	second, stopSecond := iter.Pull(seq)
	defer stopFirst()
	defer stopSecond()
	for i := range len(want) + 2 {
		a, okA := first()
		b, okB := second()
		if there := i < len(want); okA != there || okB != there || there && (a != want[i] || b != want[i]) {
			t.Errorf("side by side, number %d: %d, %t and %d, %t", i, a, okA, b, okB)
		}
	}
}

// P12.4: the bits of a mask are the numbers of the bytes that it is of.
func TestBitsOfMasks(t *testing.T) {
	d := draw(5)
	for range 5000 {
		c := d.next() & 0x8383838383838383
		h2 := byte(d.next() & 0x83)
		var want []int
		for i, b := range list(c) {
			if b == h2 {
				want = append(want, i)
			}
		}
		wantBits(t, group.Match(c, h2), want)
		for i := range group.Bits(group.Match(c, h2)) {
			if b, _ := group.Get(c, i); b != h2 {
				t.Errorf("Match(%#016x, %#x) has bit %d, where %#x stands", c, h2, i, b)
			}
		}
	}
}
