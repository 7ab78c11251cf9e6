package numbers_test

import (
	"bytes"
	"math"
	"testing"

	"heddle/numbers"
)

// written are numbers with their bytes, on both sides of each further byte.
var written = []struct {
	n uint64
	b []byte
}{
	{0, []byte{0}},
	{1, []byte{1}},
	{127, []byte{0x7f}},
	{128, []byte{0x80, 1}},
	{129, []byte{0x81, 1}},
	{16383, []byte{0xff, 0x7f}},
	{16384, []byte{0x80, 0x80, 1}},
	{2097151, []byte{0xff, 0xff, 0x7f}},
	{2097152, []byte{0x80, 0x80, 0x80, 1}},
	{268435455, []byte{0xff, 0xff, 0xff, 0x7f}},
	{268435456, []byte{0x80, 0x80, 0x80, 0x80, 1}},
	{2147483647, []byte{0xff, 0xff, 0xff, 0xff, 7}},
	{2147483648, []byte{0x80, 0x80, 0x80, 0x80, 8}},
	{1 << 63, []byte{0x80, 0x80, 0x80, 0x80, 0x80, 0x80, 0x80, 0x80, 0x80, 1}},
	{math.MaxUint64, []byte{0xff, 0xff, 0xff, 0xff, 0xff, 0xff, 0xff, 0xff, 0xff, 1}},
}

func TestAppend(t *testing.T) {
	for _, w := range written {
		if b := numbers.Append(nil, w.n); !bytes.Equal(b, w.b) {
			t.Errorf("Append(nil, %d) = % x, want % x", w.n, b, w.b)
		}
		if b := numbers.Append([]byte{9, 8}, w.n); !bytes.Equal(b, append([]byte{9, 8}, w.b...)) {
			t.Errorf("Append of two bytes, %d = % x", w.n, b)
		}
	}
}

func wantRead(t *testing.T, b []byte, at int, limit, n uint64, behind int, ok bool) {
	t.Helper()
	if gotN, gotBehind, gotOK := numbers.Read(b, at, limit); gotN != n || gotBehind != behind || gotOK != ok {
		t.Errorf("Read(% x, %d, %d) = %d, %d, %v, want %d, %d, %v", b, at, limit, gotN, gotBehind, gotOK, n, behind, ok)
	}
}

func TestRead(t *testing.T) {
	for _, w := range written {
		for _, limit := range []uint64{0, 127, 128, 16383, 16384, numbers.Limit, numbers.Limit + 1, 1<<63 - 1, 1 << 63, math.MaxUint64 - 1, math.MaxUint64, w.n} {
			for _, front := range [][]byte{nil, {0x80, 3}} {
				b := append(append([]byte{}, front...), w.b...)
				b = append(b, 0xff, 1)
				if w.n <= limit {
					wantRead(t, b, len(front), limit, w.n, len(front)+len(w.b), true)
				} else {
					wantRead(t, b, len(front), limit, 0, len(front), false)
				}
			}
		}
	}
}

// The bytes end within a number.
func TestReadTooShort(t *testing.T) {
	for _, w := range written {
		for n := range w.b {
			wantRead(t, w.b[:n], 0, math.MaxUint64, 0, 0, false)
			wantRead(t, append([]byte{5}, w.b[:n]...), 1, math.MaxUint64, 0, 1, false)
		}
	}
	wantRead(t, nil, 0, math.MaxUint64, 0, 0, false)
}

// A last byte that is 0 is there for nothing.
func TestReadLastByteZero(t *testing.T) {
	for n := 1; n < 30; n++ {
		b := append(bytes.Repeat([]byte{0x80}, n), 0, 1)
		wantRead(t, b, 0, math.MaxUint64, 0, 0, false)
		b[0] = 0x81
		wantRead(t, b, 0, math.MaxUint64, 0, 0, false)
	}
	wantRead(t, []byte{0, 0}, 0, 0, 0, 1, true)
	wantRead(t, []byte{0, 0}, 1, 0, 0, 2, true)
}

// Bits beyond the 64th are not lost.
func TestReadTooLong(t *testing.T) {
	wantRead(t, []byte{0xff, 0xff, 0xff, 0xff, 0xff, 0xff, 0xff, 0xff, 0xff, 2}, 0, math.MaxUint64, 0, 0, false)
	wantRead(t, []byte{0xff, 0xff, 0xff, 0xff, 0xff, 0xff, 0xff, 0xff, 0xff, 3}, 0, math.MaxUint64, 0, 0, false)
	for n := 10; n < 60; n++ {
		wantRead(t, append(bytes.Repeat([]byte{0x80}, n), 1), 0, math.MaxUint64, 0, 0, false)
		wantRead(t, append(bytes.Repeat([]byte{0x80}, n), 1), 0, numbers.Limit, 0, 0, false)
	}
}

func TestReadOutside(t *testing.T) {
	for _, at := range []int{math.MinInt, -1, 3, 4, math.MaxInt} {
		wantRead(t, []byte{1, 2}, at, math.MaxUint64, 0, at, false)
	}
	wantRead(t, []byte{1, 2}, 2, math.MaxUint64, 0, 2, false)
}
