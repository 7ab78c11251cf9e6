package group_test

import (
	"testing"

	"heddle/group"
)

// edges are the bytes at which something begins or ends.
var edges = []byte{0, 1, 0x7F, 0x80, 0x81, 0xFD, 0xFE, 0xFF}

// word answers the word of these bytes, the first the lowest.
func word(list [8]byte) uint64 {
	c := uint64(0)
	for i := 7; i >= 0; i-- {
		c = c*256 + uint64(list[i])
	}
	return c
}

// list answers the bytes of a word, the lowest first.
func list(c uint64) (bytes [8]byte) {
	for i := range bytes {
		bytes[i] = byte(c % 256)
		c /= 256
	}
	return bytes
}

// all answers eight times the same byte.
func all(b byte) (bytes [8]byte) {
	for i := range bytes {
		bytes[i] = b
	}
	return bytes
}

// with answers the bytes with b in one place.
func with(bytes [8]byte, i int, b byte) [8]byte {
	bytes[i] = b
	return bytes
}

// maskOf answers the mask of the bytes that are as asked, looked at one by one.
func maskOf(bytes [8]byte, is func(byte) bool) uint64 {
	mask, bit := uint64(0), uint64(1)
	for _, b := range bytes {
		if is(b) {
			mask += bit
		}
		bit *= 2
	}
	return mask
}

func isEmpty(b byte) bool   { return b == 128 }
func isDeleted(b byte) bool { return b == 254 }
func isOpen(b byte) bool    { return b == 128 || b == 254 }
func isFull(b byte) bool    { return b <= 127 }

// wantMatch looks for the bytes that are h2, and for nothing else.
func wantMatch(t *testing.T, c uint64, h2 byte) {
	t.Helper()
	if got, want := group.Match(c, h2), maskOf(list(c), func(b byte) bool { return b == h2 }); got != want {
		t.Fatalf("Match(%#016x, %#x) = %#x, want %#x", c, h2, got, want)
	}
}

// wantKinds holds the masks of the kinds of control bytes against the bytes one by one.
func wantKinds(t *testing.T, c uint64) {
	t.Helper()
	for _, k := range []struct {
		name string
		call func(uint64) uint64
		is   func(byte) bool
	}{
		{"Empty", group.Empty, isEmpty}, {"Deleted", group.Deleted, isDeleted}, {"Open", group.Open, isOpen}, {"Full", group.Full, isFull},
	} {
		if got, want := k.call(c), maskOf(list(c), k.is); got != want {
			t.Fatalf("%s(%#016x) = %#x, want %#x", k.name, c, got, want)
		}
	}
}

// wantMasks looks at all masks of a word: at Match with the edges, with all its own bytes, with those that differ from them by one, and with those that differ in the highest bit alone.
func wantMasks(t *testing.T, c uint64) {
	t.Helper()
	wantKinds(t, c)
	for _, h2 := range edges {
		wantMatch(t, c, h2)
	}
	for _, b := range list(c) {
		for _, h2 := range []byte{b, b + 1, b - 1, b ^ 1, b ^ 0x80} {
			wantMatch(t, c, h2)
		}
	}
}

// draw gives numbers that look like chance, but are the same in each run.
type draw uint64

func (d *draw) next() uint64 {
	*d = *d*6364136223846793005 + 1442695040888963407
	x := uint64(*d)
	x = (x ^ x>>32) * 0x9E3779B97F4A7C15
	return x ^ x>>29
}
