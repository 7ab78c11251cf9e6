package numbers_test

import (
	"bytes"
	"math"
	"testing"

	"heddle/numbers"
)

func TestFit(t *testing.T) {
	for _, list := range [][]int{nil, {}, {0}, {1}, {2147483647}, {0, 2147483647, 5}} {
		if !numbers.Fit(list...) {
			t.Errorf("Fit(%v) is false", list)
		}
	}
	for _, n := range []int{math.MinInt, -2147483648, -1, 2147483648, math.MaxInt} {
		for _, list := range [][]int{{n}, {n, 0}, {0, n}, {1, n, 1}} {
			if numbers.Fit(list...) {
				t.Errorf("Fit(%v) is true", list)
			}
		}
	}
}

func wantNext(t *testing.T, r *numbers.Reader, low, high, want uint64) {
	t.Helper()
	if n := r.Next(low, high); n != want || r.Fault() {
		t.Errorf("Next(%d, %d) = %d, at fault: %v, want %d", low, high, n, r.Fault(), want)
	}
}

func wantText(t *testing.T, r *numbers.Reader, want string) {
	t.Helper()
	if s := r.Text(); s != want || r.Fault() {
		t.Errorf("Text() = %q, at fault: %v, want %q", s, r.Fault(), want)
	}
}

func wantEnd(t *testing.T, r *numbers.Reader, want int, wantOK bool) {
	t.Helper()
	if at, ok := r.End(); at != want || ok != wantOK {
		t.Errorf("End() = %d, %v, want %d, %v", at, ok, want, wantOK)
	}
}

func TestReader(t *testing.T) {
	r := numbers.Over([]byte{5, 0x80, 1, 2, 'a', 0xff, 0, 0xff, 0xff, 0xff, 0xff, 0xff, 0xff, 0xff, 0xff, 0xff, 1, 7})
	wantEnd(t, r, 0, false)
	wantNext(t, r, 5, 5, 5)
	wantNext(t, r, 0, 128, 128)
	wantEnd(t, r, 3, false)
	wantText(t, r, "a\xff")
	wantText(t, r, "")
	wantNext(t, r, 0, math.MaxUint64, math.MaxUint64)
	wantEnd(t, r, 17, false)
	wantNext(t, r, 1, 10, 7)
	wantEnd(t, r, 18, true)
	r = numbers.Over(nil)
	wantEnd(t, r, 0, true)
}

// At a fault a reader stays where the number begins, whatever is asked from then on.
func TestReaderAtFault(t *testing.T) {
	for _, b := range [][]byte{{}, {0x80}, {0x85, 0}, {1}, {2}, {9}, {11}, {0x80, 1}, {0xff, 0xff, 0xff, 0xff, 0xff, 0xff, 0xff, 0xff, 0xff, 3}} {
		r := numbers.Over(bytes.Join([][]byte{{4}, b}, nil))
		wantNext(t, r, 0, 4, 4)
		// 9 and 11 are outside these, on either side, and so are 1 and 2.
		if n := r.Next(10, 10); n != 0 || !r.Fault() {
			t.Errorf("Next(10, 10) of % x = %d, at fault: %v", b, n, r.Fault())
		}
		wantEnd(t, r, 1, false)
		if n, s := r.Next(0, math.MaxUint64), r.Text(); n != 0 || s != "" || !r.Fault() {
			t.Errorf("behind a fault: %d, %q, at fault: %v", n, s, r.Fault())
		}
		wantEnd(t, r, 1, false)
	}
}

// A text's length is at fault, where it begins, if so many bytes are not left.
func TestReaderTexts(t *testing.T) {
	long := bytes.Repeat([]byte{'x'}, 200)
	b := bytes.Join([][]byte{{3, 200, 1}, long}, nil)
	r := numbers.Over(b)
	wantNext(t, r, 0, 9, 3)
	wantText(t, r, string(long))
	wantEnd(t, r, len(b), true)
	for _, wrong := range [][]byte{{}, {1}, {2, 'a'}, {0x80}, {0x81, 0, 'a'}, {200, 1, 'a'}, {0xff, 0xff, 0xff, 0xff, 7, 'a'}, {0x80, 0x80, 0x80, 0x80, 8, 'a'}, b[1 : len(b)-1]} {
		r := numbers.Over(bytes.Join([][]byte{{3}, wrong}, nil))
		wantNext(t, r, 0, 9, 3)
		if s := r.Text(); s != "" || !r.Fault() {
			t.Errorf("Text of % x = %q, at fault: %v", wrong, s, r.Fault())
		}
		wantEnd(t, r, 1, false)
	}
}

// A text is not changed with the bytes that it was read from.
func TestReaderTextsAreCopies(t *testing.T) {
	b := []byte{3, 'a', 'b', 'c'}
	r := numbers.Over(b)
	s := r.Text()
	copy(b, []byte{9, 9, 9, 9})
	if s != "abc" {
		t.Errorf("the text is now %q", s)
	}
}
