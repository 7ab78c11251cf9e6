package group_test

import (
	"math"
	"slices"
	"testing"

	"heddle/api"
	"heddle/group"
)

func wantGet(t *testing.T, c uint64, i int, want byte, errno api.Errno) {
	t.Helper()
	if b, e := group.Get(c, i); b != want || e != errno {
		t.Errorf("Get(%#016x, %d) = %#x, %d, want %#x, %d", c, i, b, e, want, errno)
	}
}

func wantSet(t *testing.T, c uint64, i int, b byte, want uint64, errno api.Errno) {
	t.Helper()
	if x, e := group.Set(c, i, b); x != want || e != errno {
		t.Errorf("Set(%#016x, %d, %#x) = %#016x, %d, want %#016x, %d", c, i, b, x, e, want, errno)
	}
}

func wantSplit(t *testing.T, hash, h1 uint64, h2 byte) {
	t.Helper()
	if a, b := group.Split(hash); a != h1 || b != h2 {
		t.Errorf("Split(%#x) = %#x, %#x, want %#x, %#x", hash, a, b, h1, h2)
	}
}

// The chapter's example.
func TestExample(t *testing.T) {
	const c = 0x8080808080058080
	wantSet(t, group.New(), 2, 5, c, api.OK)
	for _, m := range []struct {
		name      string
		got, want uint64
	}{
		{"Match of 5", group.Match(c, 5), 4},
		{"Empty", group.Empty(c), 0xFB},
		{"Full", group.Full(c), 4},
		{"Match of 0", group.Match(0x0101010101010100, 0), 1},
	} {
		if m.got != m.want {
			t.Errorf("%s: %#x, want %#x", m.name, m.got, m.want)
		}
	}
	if got := slices.Collect(group.Bits(0x8000000000000005)); !slices.Equal(got, []int{0, 2, 63}) {
		t.Errorf("Bits: %v", got)
	}
}

// P12.1
func TestNew(t *testing.T) {
	c := group.New()
	if c != 0x8080808080808080 {
		t.Errorf("New() = %#016x", c)
	}
	for i := range 8 {
		wantGet(t, c, i, 0x80, api.OK)
	}
	if group.Empty(c) != 0xFF || group.Open(c) != 0xFF || group.Deleted(c) != 0 || group.Full(c) != 0 {
		t.Errorf("New() has other bytes than empty ones")
	}
}

// P12.1: the first byte is the lowest.
func TestPlaces(t *testing.T) {
	const c = 0xFF80FE7F03020100
	for i, b := range []byte{0, 1, 2, 3, 0x7F, 0xFE, 0x80, 0xFF} {
		wantGet(t, c, i, b, api.OK)
		wantSet(t, c, i, b, c, api.OK)
	}
	for i, want := range []uint64{
		0xFF80FE7F030201A5, 0xFF80FE7F0302A500, 0xFF80FE7F03A50100, 0xFF80FE7FA5020100,
		0xFF80FEA503020100, 0xFF80A57F03020100, 0xFFA5FE7F03020100, 0xA580FE7F03020100,
	} {
		wantSet(t, c, i, 0xA5, want, api.OK)
	}
}

// P12.1: each byte in each place, over each other byte, while all other places stay.
func TestSetOfAnyByte(t *testing.T) {
	words := []uint64{0, math.MaxUint64, group.New(), 0xFF80FE7F03020100, 0x00FF00FF00FF00FF, 0xFF00FF00FF00FF00, 0x0123456789ABCDEF}
	for b := range 256 {
		words = append(words, word(all(byte(b))))
	}
	for _, c := range words {
		for i := range 8 {
			for b := range 256 {
				bytes := with(list(c), i, byte(b))
				wantSet(t, c, i, byte(b), word(bytes), api.OK)
				wantGet(t, word(bytes), i, byte(b), api.OK)
			}
		}
	}
}

// P12.1: drawn words, set place by place in any order.
func TestSetInAnyOrder(t *testing.T) {
	d := draw(12)
	for range 5000 {
		from, to := d.next(), d.next()
		c, bytes := from, list(from)
		// An odd step goes through all eight places.
		first, step := int(d.next()%8), int(d.next()%4)*2+1
		for k := range 8 {
			i := (first + k*step) % 8
			bytes[i] = list(to)[i]
			next, e := group.Set(c, i, bytes[i])
			if next != word(bytes) || e != api.OK {
				t.Fatalf("Set(%#016x, %d, %#x) = %#016x, %d, want %#016x", c, i, bytes[i], next, e, word(bytes))
			}
			c = next
			for j, b := range bytes {
				wantGet(t, c, j, b, api.OK)
			}
		}
		if c != to {
			t.Fatalf("all places of %#016x set to those of %#016x: %#016x", from, to, c)
		}
	}
}

// P12.1, R1, R3: numbers of no byte. Eight times some of them is a number from 0 to 63 again.
func TestNoPlace(t *testing.T) {
	for _, i := range []int{
		math.MinInt, math.MinInt + 1, math.MinInt + 7, -1 << 61, -1<<61 + 3, -1 << 60, -1 << 32, -1<<32 + 1, math.MinInt32, -256, -64, -63, -9, -8, -7, -2, -1,
		8, 9, 10, 15, 16, 56, 63, 64, 255, 256, 257, math.MaxInt32, 1 << 32, 1<<32 + 1, 1 << 60, 1 << 61, 1<<61 + 1, 1<<61 + 7, 1 << 62, math.MaxInt - 7, math.MaxInt - 1, math.MaxInt,
	} {
		for _, c := range []uint64{0, 1, math.MaxUint64, group.New(), 0xFF80FE7F03020100} {
			wantGet(t, c, i, 0, api.ErrArg)
			for _, b := range edges {
				wantSet(t, c, i, b, 0, api.ErrArg)
			}
		}
	}
}

// P12.3
func TestSplit(t *testing.T) {
	wantSplit(t, 0, 0, 0)
	wantSplit(t, 1, 0, 1)
	wantSplit(t, 126, 0, 126)
	wantSplit(t, 127, 0, 127)
	wantSplit(t, 128, 1, 0)
	wantSplit(t, 129, 1, 1)
	wantSplit(t, 255, 1, 127)
	wantSplit(t, 256, 2, 0)
	wantSplit(t, 0x1FF, 3, 0x7F)
	wantSplit(t, 1<<63-1, 1<<56-1, 127)
	wantSplit(t, 1<<63, 1<<56, 0)
	wantSplit(t, math.MaxUint64-127, 1<<57-1, 0)
	wantSplit(t, math.MaxUint64-128, 1<<57-2, 127)
	wantSplit(t, math.MaxUint64, 1<<57-1, 127)
	wantSplit(t, 0x0123456789ABCDEF, 0x02468ACF13579B, 0x6F)
}

// P12.3: each bit alone, all but one, and drawn hashes: nothing is lost, and h2 is a full control byte.
func TestSplitOfAnyHash(t *testing.T) {
	d := draw(3)
	hashes := []uint64{}
	for i := range 64 {
		hashes = append(hashes, 1<<i, ^uint64(1<<i), 1<<i-1)
	}
	for range 20000 {
		hashes = append(hashes, d.next())
	}
	for _, hash := range hashes {
		wantSplit(t, hash, hash/128, byte(hash%128))
		h1, h2 := group.Split(hash)
		if h1*128+uint64(h2) != hash {
			t.Errorf("Split(%#x) = %#x, %#x", hash, h1, h2)
		}
		if c, _ := group.Set(group.New(), 3, h2); group.Full(c) != 8 || group.Match(c, h2) != 8 || group.Open(c) != 0xF7 {
			t.Errorf("h2 of %#x is %#x: not full", hash, h2)
		}
	}
}
