package group_test

import (
	"math"
	"testing"

	"heddle/group"
)

// P12.2: masks written out.
func TestMasks(t *testing.T) {
	for _, m := range []struct {
		c                          uint64
		empty, deleted, open, full uint64
	}{
		{0, 0, 0, 0, 0xFF},
		{math.MaxUint64, 0, 0, 0, 0},
		{0x8080808080808080, 0xFF, 0, 0xFF, 0},
		{0xFEFEFEFEFEFEFEFE, 0, 0xFF, 0xFF, 0},
		{0x7F7F7F7F7F7F7F7F, 0, 0, 0, 0xFF},
		{0x8181818181818181, 0, 0, 0, 0},
		{0xFDFDFDFDFDFDFDFD, 0, 0, 0, 0},
		{0xFE80, 1, 2, 3, 0xFC},
		{0xFE80FE807F007F00, 0x50, 0xA0, 0xF0, 0x0F},
		{0xFFFE81807FFD0100, 0x10, 0x40, 0x50, 0x0B},
		{0x80FFFFFFFFFFFFFF, 0x80, 0, 0x80, 0},
		{0xFE00000000000080, 0x01, 0x80, 0x81, 0x7E},
		{0x0102FE8003FE8004, 0x12, 0x24, 0x36, 0xC9},
	} {
		for _, k := range []struct {
			name      string
			got, want uint64
		}{
			{"Empty", group.Empty(m.c), m.empty},
			{"Deleted", group.Deleted(m.c), m.deleted},
			{"Open", group.Open(m.c), m.open},
			{"Full", group.Full(m.c), m.full},
		} {
			if k.got != k.want {
				t.Errorf("%s(%#016x) = %#x, want %#x", k.name, m.c, k.got, k.want)
			}
		}
	}
}

// P12.2: matches written out: what is h2 stands below bytes that differ from it by one, and by the highest bit alone.
func TestMatches(t *testing.T) {
	for _, m := range []struct {
		c    uint64
		h2   byte
		want uint64
	}{
		{0, 0, 0xFF},
		{0, 1, 0},
		{0, 0x80, 0},
		{0, 0xFF, 0},
		{math.MaxUint64, 0xFF, 0xFF},
		{math.MaxUint64, 0xFE, 0},
		{math.MaxUint64, 0x7F, 0},
		{math.MaxUint64, 0, 0},
		{0x0101010101010100, 0, 0x01},
		{0x0101010101010100, 1, 0xFE},
		{0x0001010101010101, 0, 0x80},
		{0x0100010001000100, 0, 0x55},
		{0x8000800080008000, 0, 0x55},
		{0x8000800080008000, 0x80, 0xAA},
		{0x8180818081808180, 0x80, 0x55},
		{0x7F807F807F807F80, 0x80, 0x55},
		{0xFFFEFDFFFEFD7E7F, 0xFE, 0x48},
		{0xFFFEFDFFFEFD7E7F, 0xFF, 0x90},
		{0xFFFEFDFFFEFD7E7F, 0xFD, 0x24},
		{0xFFFEFDFFFEFD7E7F, 0x7E, 0x02},
		{0xFFFEFDFFFEFD7E7F, 0x7F, 0x01},
		{0x8080808080058080, 0x05, 0x04},
		{0x8080808080058080, 0x85, 0},
		{0x8080808080058080, 0x04, 0},
		{0x8080808080058080, 0x80, 0xFB},
	} {
		if got := group.Match(m.c, m.h2); got != m.want {
			t.Errorf("Match(%#016x, %#x) = %#x, want %#x", m.c, m.h2, got, m.want)
		}
	}
}

// P12.2: each byte alone in each place among each other byte.
func TestOneAmongOthers(t *testing.T) {
	for b := range 256 {
		for a := range 256 {
			for i := range 8 {
				c := word(with(all(byte(b)), i, byte(a)))
				wantKinds(t, c)
				wantMatch(t, c, byte(a))
				wantMatch(t, c, byte(b))
			}
		}
	}
}

// P12.2: the edges in each place, beside bytes that differ by one, in the highest bit alone, or not at all, above, below or all around, with every h2.
func TestEdgesBesideTheirLikes(t *testing.T) {
	for _, a := range edges {
		for _, b := range []byte{a, a + 1, a - 1, a ^ 1, a ^ 0x80, a ^ 0x81, a ^ 0x7F, ^a} {
			for i := range 8 {
				for _, around := range []byte{a, b, 0, 0x80, 0xFE, 0xFF} {
					below, above := with(all(around), i, a), with(all(around), i, a)
					if i > 0 {
						below[i-1] = b
					}
					if i < 7 {
						above[i+1] = b
					}
					for h2 := range 256 {
						wantMatch(t, word(below), byte(h2))
						wantMatch(t, word(above), byte(h2))
					}
					wantMasks(t, word(below))
					wantMasks(t, word(above))
				}
			}
		}
	}
}

// P12.2: all words of empty, deleted and full bytes, the full ones alike or not, with every h2.
func TestAllMixtures(t *testing.T) {
	for n := range 3 * 3 * 3 * 3 * 3 * 3 * 3 * 3 {
		var bytes [8]byte
		for i, left := 0, n; i < 8; i, left = i+1, left/3 {
			bytes[i] = []byte{0x80, 0xFE, byte(n*37+i*i*11) & 0x7F}[left%3]
		}
		wantMasks(t, word(bytes))
		for h2 := range 256 {
			wantMatch(t, word(bytes), byte(h2))
		}
	}
}

// P12.2: all words of four edges below four others, which are the same, the other way round, or all as one of them.
func TestAllWordsOfEdges(t *testing.T) {
	for n := range 8 * 8 * 8 * 8 {
		var same, turned, last [8]byte
		for i, left := 0, n; i < 4; i, left = i+1, left/8 {
			b := edges[left%8]
			same[i], same[i+4] = b, b
			turned[i], turned[7-i] = b, b
			last[i] = b
			last[4], last[5], last[6], last[7] = b, b, b, b
		}
		wantMasks(t, word(same))
		wantMasks(t, word(turned))
		wantMasks(t, word(last))
	}
}

// P12.2: drawn words, all bytes of them or few different ones, with every h2.
func TestDrawnWords(t *testing.T) {
	d := draw(7)
	for range 5000 {
		mixed := d.next()
		near := mixed & 0x0101010101010101
		flips := mixed & 0x8181818181818181
		for _, c := range []uint64{mixed, near, flips, near ^ d.next()%256*0x0101010101010101, flips ^ d.next()%256*0x0101010101010101} {
			wantMasks(t, c)
			for h2 := range 256 {
				wantMatch(t, c, byte(h2))
			}
		}
	}
}

// P12.2: whatever the word, no mask has a bit above bit 7, and each byte is in the mask of just one h2.
func TestMasksAreParted(t *testing.T) {
	d := draw(9)
	for range 2000 {
		c, sum := d.next(), uint64(0)
		for h2 := range 256 {
			mask := group.Match(c, byte(h2))
			if mask&sum != 0 || mask > 0xFF {
				t.Fatalf("Match(%#016x, %#x) = %#x, with %#x in masks of lesser ones", c, h2, mask, sum)
			}
			sum |= mask
		}
		if sum != 0xFF {
			t.Fatalf("Match(%#016x) with every h2: %#x", c, sum)
		}
		if group.Full(c) > 0xFF || group.Open(c) > 0xFF || group.Full(c)&group.Open(c) != 0 {
			t.Fatalf("%#016x: Full %#x, Open %#x", c, group.Full(c), group.Open(c))
		}
	}
}
