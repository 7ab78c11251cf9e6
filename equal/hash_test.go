package equal_test

import (
	"math"
	"slices"
	"strings"
	"testing"

	"heddle/api"
	"heddle/equal"
)

// P10.2: Mix against numbers that were worked out elsewhere.
func TestMix(t *testing.T) {
	for x, want := range map[uint64]uint64{
		0:                  0,
		1:                  0xca009717f87d8879,
		2:                  0x6c3247d3eded6346,
		5:                  0xff058924c700a2a6,
		255:                0xadf0a975723cd428,
		256:                0x7ae79830ce405c9a,
		1 << 31:            0x7bcc638f49d5b33b,
		1<<32 - 1:          0x73bcd491f76cf72e,
		1 << 32:            0x970818a6fa8a5110,
		1<<63 - 1:          0x5ae24d9b970462d7,
		1 << 63:            0x8838ccabba211c1f,
		math.MaxUint64 - 1: 0x10d28c2c7739b22a,
		math.MaxUint64:     0x9cebc8ff07279667,
		0x0123456789abcdef: 0xfc3392bbc8ac1959,
		0x9E3779B97F4A7C15: 0x9618fb2d152777d1,
		0xBF58476D1CE4E5B9: 0xde4a21526fa98496,
	} {
		if got := equal.Mix(x); got != want {
			t.Errorf("Mix(%#x) = %#x, want %#x", x, got, want)
		}
	}
}

// P10.2: Mix against the chapter's words written out, at each bit and at drawn numbers.
func TestMixByItsWords(t *testing.T) {
	var d draw
	list := []uint64{0, 1, math.MaxUint64}
	for bit := range 64 {
		list = append(list, 1<<bit, 1<<bit-1, ^uint64(1<<bit))
	}
	for range 2000 {
		list = append(list, d.next())
	}
	for _, x := range list {
		if got, want := equal.Mix(x), modelMix(x); got != want {
			t.Errorf("Mix(%#x) = %#x, want %#x", x, got, want)
		}
	}
}

// P10.2: hashes of each kind, worked out elsewhere.
func TestHashesWrittenOut(t *testing.T) {
	for _, c := range []struct {
		i          int
		v          []api.Cell
		seed, salt uint64
		want       uint64
	}{
		{anInt, num(0), 0, 0, 0},
		{anInt, num(0), 1, 0, 0xca009717f87d8879},
		{anInt, num(1), 0, 0, 0xca009717f87d8879},
		{anInt, num(1), 1, 9, 0},
		{anInt, num(math.MaxUint64), 1, 0, 0x10d28c2c7739b22a},
		{aBool, num(1), 3, 0, 0x6c3247d3eded6346},
		{aPtr, num(1<<31 - 1), 1<<32 - 1, 0, 0x7bcc638f49d5b33b},
		{aFloat, num(1 << 63), 5, 7, 0xff058924c700a2a6},
		{aFloat, num(nan), 7, 2, 0xff058924c700a2a6},
		{aFloat, num(1<<63 + 1), 1, 2, 0x8838ccabba211c1f},
		{aStr, text(""), 256, 0, 0x7ae79830ce405c9a},
		{aStr, text("\xff"), 0, 0, 0x382393477d905b0e},
		{aStr, text("ab"), 0, 0, 0x2ffec780f132ea1b},
		{anIface, num(0), 2, 0, 0x6c3247d3eded6346},
		{anIface, holding(anInt, num(7)), 0, 0, 0xbdd16aac4664e086},
		{aPair, pair(7, "ab"), 1 << 63, 0, 0x06b53fe230e24cef},
	} {
		if h, e := equal.Hash(table(), c.i, c.v, c.seed, c.salt); h != c.want || e != api.OK {
			t.Errorf("Hash(type %d, %s, %d, %d) = %#x, %d, want %#x", c.i, show(c.v), c.seed, c.salt, h, e, c.want)
		}
	}
}

// P10.2: the number of a Bool, an Int, a pointer, from the least to the greatest.
func TestHashOfNumbers(t *testing.T) {
	for _, n := range []uint64{0, 1} {
		wantHash(t, aBool, num(n), n)
	}
	for _, n := range []uint64{0, 1, 2, 1 << 31, 1 << 32, 1<<63 - 1, 1 << 63, math.MaxUint64 - 1, math.MaxUint64, nan, infinity} {
		wantHash(t, anInt, num(n), n)
	}
	for _, i := range []int{aPtr, toMap, toMixed} {
		for _, n := range []uint64{0, 1, 256, 1<<31 - 1} {
			wantHash(t, i, num(n), n)
		}
	}
}

// P10.2: zeros are one, nans are the salt, and the other floats their bits.
func TestHashOfFloats(t *testing.T) {
	wantHash(t, aFloat, num(0), 0)
	wantHash(t, aFloat, num(negative), 0)
	for _, n := range finite {
		wantHash(t, aFloat, num(n), n)
		wantHash(t, floats, num(n, negative, n), n, 0, n)
		wantHash(t, anIface, holding(aFloat, num(n)), aFloat+1, n)
	}
	for _, n := range nans {
		wantHash(t, aFloat, num(n), theSalt)
		wantHash(t, floats, num(one, n, 0), one, theSalt, 0)
		wantHash(t, floats, num(n, n, n), theSalt, theSalt, theSalt)
		wantHash(t, anIface, around(1, holding(aFloat, num(n))), single+1, aFloat+1, theSalt)
	}
}

// folded answers the numbers of a text by the chapter's words.
func folded(s string) (list []any) {
	for _, b := range []byte(s) {
		list = append(list, int(b)+1)
	}
	return append(list, len(s))
}

// P10.2: each byte and one, and then the length.
func TestHashOfTexts(t *testing.T) {
	wantHash(t, aStr, text(""), 0)
	wantHash(t, aStr, text("\x00"), 1, 1)
	wantHash(t, aStr, text("\x00\x00"), 1, 1, 2)
	wantHash(t, aStr, text("\xff"), 256, 1)
	wantHash(t, aStr, text("ab"), 98, 99, 2)
	wantHash(t, aStr, text("ba"), 99, 98, 2)
	wantHash(t, aStr, text("é"), 0xc4, 0xaa, 2)
	wantHash(t, texts, text("ab", "", "c"), 98, 99, 2, 0, 100, 1)
	wantHash(t, aPair, pair(7, "ab"), 7, 98, 99, 2)
	for _, s := range []string{"\x7f\x80\xfe\xff", "abc\x00", strings.Repeat("\xff", 300)} {
		wantHash(t, aStr, text(s), folded(s)...)
	}
	long := strings.Repeat("xy", api.MaxStr/2)
	want := uint64(9)
	for _, b := range []byte(long) {
		want = equal.Mix(want ^ uint64(b+1))
	}
	if h, want := hash(t, aStr, text(long), 9, 0), equal.Mix(want^api.MaxStr); h != want {
		t.Errorf("Hash of the longest text: %d, want %d", h, want)
	}
}

// P10.2: texts whose bytes are cut in other places have other hashes.
func TestHashOfTextsBeside(t *testing.T) {
	seen := map[uint64]int{}
	for i, v := range besides() {
		h := hash(t, texts, v, 77, 0)
		if j, ok := seen[h]; ok {
			t.Errorf("one hash of %s and %s", show(v), show(besides()[j]))
		}
		seen[h] = i
	}
}

// P10.2: the type of what an interface holds, and one, and then its cells.
func TestHashOfInterfaces(t *testing.T) {
	wantHash(t, anIface, num(0), 0)
	wantHash(t, anIface, []api.Cell{{Box: []api.Cell{}}}, 0)
	wantHash(t, anIface, empty(anInt), anInt+1, 0)
	wantHash(t, anIface, holding(aBool, num(1)), aBool+1, 1)
	wantHash(t, anIface, holding(aPair, pair(5, "a")), aPair+1, 5, 98, 1)
	wantHash(t, anIface, holding(twin, pair(5, "a")), twin+1, 5, 98, 1)
	wantHash(t, marked, mark(5, num(0)), 5, 0)
	wantHash(t, marked, mark(5, holding(toMap, num(9))), 5, toMap+1, 9)
	wantHash(t, anIface, around(3, num(0)), single+1, single+1, single+1, 0)
	wantHash(t, anIface, around(2, holding(marked, mark(8, empty(aStr)))), single+1, single+1, marked+1, 8, aStr+1, 0)
	v := join(slices.Repeat(num(0), 14), holding(marked, mark(1, empty(anInt))), holding(aFloat, num(nan)))
	wantHash(t, sixteen, v, 0, 0, 0, 0, 0, 0, 0, 0, 0, 0, 0, 0, 0, 0, marked+1, 1, anInt+1, 0, aFloat+1, theSalt)
}

// P10.2: all cells of structs and arrays in their order.
func TestHashOfParts(t *testing.T) {
	want := []any{1, 2, one, 'x' + 1, 1, 3, anInt + 1, 0, 4, 'y' + 1, 1, 'u' + 1, 1, 'v' + 1, 1, 'w' + 1, 1}
	for i, x := range want {
		if r, ok := x.(rune); ok {
			want[i] = int(r)
		}
	}
	wantHash(t, mixed, whole(), want...)
	wantHash(t, mixes, whole(), want...)
	wantHash(t, anIface, holding(mixes, whole()), slices.Concat([]any{mixes + 1}, want)...)
	wantHash(t, pairs, join(pair(3, "a"), pair(4, "")), 3, 98, 1, 4, 0)
}

// P10.2: a type that can't be compared, in any interface and any box.
func TestHashOfTypesThatCannotBeCompared(t *testing.T) {
	for _, i := range held() {
		v := empty(i)
		wantNoHash(t, anIface, v, api.ErrHash)
		wantNoHash(t, single, v, api.ErrHash)
		wantNoHash(t, marked, mark(1, v), api.ErrHash)
		wantNoHash(t, measure, join(num(nan), v), api.ErrHash)
		wantNoHash(t, anIface, around(1, v), api.ErrHash)
		wantNoHash(t, anIface, around(api.MaxCells/2, v), api.ErrHash)
		wantNoHash(t, anIface, holding(marked, mark(1, v)), api.ErrHash)
		for at := range 16 {
			list := slices.Repeat(empty(marked), 16)
			list[at] = holding(marked, mark(2, v))[0]
			wantNoHash(t, sixteen, list, api.ErrHash)
			wantNoHash(t, anIface, holding(sixteen, list), api.ErrHash)
		}
		list := whole()
		list[5] = v[0]
		wantNoHash(t, mixed, list, api.ErrHash)
	}
}

// P10.2: a salt shows in values with a nan, and in none else.
func TestSalt(t *testing.T) {
	for _, c := range []struct {
		i     int
		v     []api.Cell
		shows bool
	}{
		{aFloat, num(nan), true},
		{aFloat, num(nans[8]), true},
		{aFloat, num(0), false},
		{aFloat, num(negative), false},
		{aFloat, num(infinity), false},
		{anInt, num(nan), false},
		{aStr, text("nan"), false},
		{floats, num(0, one, nan), true},
		{floats, num(0, one, infinity), false},
		{anIface, holding(aFloat, num(nan)), true},
		{anIface, holding(anInt, num(nan)), false},
		{anIface, around(9, holding(aFloat, num(nan))), true},
		{anIface, around(9, holding(aFloat, num(one))), false},
		{mixed, whole(), false},
	} {
		for _, seed := range ends() {
			for n, a := range ends() {
				for _, b := range ends()[:n] {
					x, y := hash(t, c.i, c.v, seed, a), hash(t, c.i, c.v, seed, b)
					if (x != y) != c.shows {
						t.Errorf("type %d, %s, seed %d: salt %d gives %d, salt %d %d", c.i, show(c.v), seed, a, x, b, y)
					}
				}
			}
		}
	}
}

// P10.2: the seed shows in every value.
func TestSeed(t *testing.T) {
	for _, v := range distinct() {
		for n, a := range ends() {
			for _, b := range ends()[:n] {
				if x, y := hash(t, anIface, v, a, 0), hash(t, anIface, v, b, 0); x == y {
					t.Errorf("%s: seeds %d and %d both give %d", show(v), a, b, x)
				}
			}
		}
	}
}
