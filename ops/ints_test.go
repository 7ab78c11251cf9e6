package ops_test

import (
	"math"
	"math/big"
	"testing"

	"heddle/api"
	"heddle/ops"
)

// least and most are the ends of the Ints.
const (
	least = uint64(1 << 63)
	most  = uint64(math.MaxInt64)
)

// neg answers the number below 0 of that size, as it stands in a cell.
func neg(n uint64) uint64 {
	return -n
}

// P11.1: the chapter's first example.
func TestFirstExample(t *testing.T) {
	f := math.Float64bits
	wantArith(t, api.DivInt, neg(7), 2, neg(3))
	wantArith(t, api.RemInt, neg(7), 2, neg(1))
	wantArith(t, api.ShlInt, 1, 64, 1)
	wantArith(t, api.ShrInt, neg(8), 1, neg(4))
	wantArith(t, api.AddF, f(1.5), f(2), f(3.5))
	wantArith(t, api.DivF, f(0), f(0), 0x7FF8000000000001)
	wantLtStr(t, "a", "b", 1)
}

// P11.1: sums, differences and products, some of which wrap.
func TestSumsAndProducts(t *testing.T) {
	for _, c := range []struct {
		way        int
		a, b, want uint64
	}{
		{api.AddInt, 2, 3, 5}, {api.AddInt, 2, neg(3), neg(1)}, {api.AddInt, 0, 0, 0},
		{api.AddInt, most, 1, least}, {api.AddInt, least, neg(1), most}, {api.AddInt, most, most, neg(2)}, {api.AddInt, least, least, 0}, {api.AddInt, least, most, neg(1)}, {api.AddInt, neg(1), 1, 0},
		{api.SubInt, 2, 3, neg(1)}, {api.SubInt, 3, 2, 1}, {api.SubInt, 2, neg(3), 5}, {api.SubInt, 5, 0, 5}, {api.SubInt, 0, 5, neg(5)},
		{api.SubInt, least, 1, most}, {api.SubInt, most, neg(1), least}, {api.SubInt, 0, least, least}, {api.SubInt, neg(1), least, most}, {api.SubInt, 1, least, least + 1}, {api.SubInt, least, least, 0}, {api.SubInt, least, most, 1}, {api.SubInt, most, least, neg(1)},
		{api.MulInt, 6, 7, 42}, {api.MulInt, neg(6), 7, neg(42)}, {api.MulInt, neg(6), neg(7), 42}, {api.MulInt, 0, least, 0},
		{api.MulInt, least, neg(1), least}, {api.MulInt, neg(1), least, least}, {api.MulInt, most, 2, neg(2)}, {api.MulInt, most, most, 1}, {api.MulInt, least, least, 0}, {api.MulInt, 1 << 32, 1 << 32, 0}, {api.MulInt, 1 << 32, 1 << 31, least}, {api.MulInt, 3037000500, 3037000500, 9223372037000250000},
	} {
		wantArith(t, c.way, c.a, c.b, c.want)
	}
}

// P11.1: quotients are cut towards zero, and the rest has the sign of what is divided.
func TestQuotients(t *testing.T) {
	for _, c := range []struct{ a, b, quotient, rest uint64 }{
		{7, 2, 3, 1}, {neg(7), 2, neg(3), neg(1)}, {7, neg(2), neg(3), 1}, {neg(7), neg(2), 3, neg(1)},
		{6, 3, 2, 0}, {neg(6), 3, neg(2), 0}, {6, neg(3), neg(2), 0}, {neg(6), neg(3), 2, 0},
		{1, 2, 0, 1}, {neg(1), 2, 0, neg(1)}, {1, neg(2), 0, 1}, {neg(1), neg(2), 0, neg(1)},
		{0, 5, 0, 0}, {0, neg(5), 0, 0}, {5, 1, 5, 0}, {5, neg(1), neg(5), 0}, {0, neg(1), 0, 0},
		{least, neg(1), least, 0}, {least, 1, least, 0}, {least, 2, neg(1 << 62), 0}, {least, least, 1, 0}, {least, most, neg(1), neg(1)}, {least, 3, neg(3074457345618258602), neg(2)}, {least, neg(3), 3074457345618258602, neg(2)},
		{most, neg(1), neg(most), 0}, {most, least, 0, most}, {most, most, 1, 0}, {most, 2, 1<<62 - 1, 1}, {neg(1), least, 0, neg(1)}, {neg(most), least, 0, neg(most)},
	} {
		wantArith(t, api.DivInt, c.a, c.b, c.quotient)
		wantArith(t, api.RemInt, c.a, c.b, c.rest)
	}
}

// P11.1, R3: division by 0, whatever is divided.
func TestDivisionByZero(t *testing.T) {
	for _, a := range ints() {
		wantNone(t, api.DivInt, a, 0, api.ErrZero)
		wantNone(t, api.RemInt, a, 0, api.ErrZero)
	}
	// Of the other ways none minds a 0, and 0 itself may be divided.
	for way := api.AddInt; way <= api.OrB; way++ {
		if way == api.DivInt || way == api.RemInt {
			continue
		}
		if _, e := ops.Arith(way, api.Cell{N: 1}, api.Cell{}); e != api.OK {
			t.Errorf("Arith(%d, 1, 0): %d", way, e)
		}
	}
}

// P11.1: numbers bit by bit.
func TestBits(t *testing.T) {
	for _, c := range []struct{ a, b, and, or, xor uint64 }{
		{0b1100, 0b1010, 0b1000, 0b1110, 0b0110}, {0, 0, 0, 0, 0}, {neg(1), 0, 0, neg(1), neg(1)}, {neg(1), neg(1), neg(1), neg(1), 0},
		{least, most, 0, neg(1), neg(1)}, {least, neg(1), least, neg(1), most}, {least, least, least, least, 0}, {neg(2), 3, 2, neg(1), neg(3)}, {0xf0f0f0f0f0f0f0f0, 0xff00ff00ff00ff00, 0xf000f000f000f000, 0xfff0fff0fff0fff0, 0x0ff00ff00ff00ff0},
	} {
		wantArith(t, api.AndInt, c.a, c.b, c.and)
		wantArith(t, api.OrInt, c.a, c.b, c.or)
		wantArith(t, api.XorInt, c.a, c.b, c.xor)
	}
}

// P11.1: shifts by the lowest six bits, down with the sign.
func TestShifts(t *testing.T) {
	for _, c := range []struct{ a, b, up, down uint64 }{
		{1, 0, 1, 1}, {1, 1, 2, 0}, {1, 63, least, 0}, {1, 64, 1, 1}, {1, 65, 2, 0}, {1, 127, least, 0}, {1, 128, 1, 1},
		{1, neg(1), least, 0}, {1, neg(64), 1, 1}, {1, neg(63), 2, 0}, {1, neg(65), least, 0}, {1, least, 1, 1}, {1, most, least, 0}, {1, least + 1, 2, 0}, {1, 1 << 32, 1, 1}, {1, 1<<32 + 2, 4, 0},
		{neg(8), 0, neg(8), neg(8)}, {neg(8), 1, neg(16), neg(4)}, {neg(8), 3, neg(64), neg(1)}, {neg(8), 4, neg(128), neg(1)}, {neg(8), 63, 0, neg(1)}, {neg(8), 64, neg(8), neg(8)}, {neg(8), 127, 0, neg(1)}, {neg(8), neg(1), 0, neg(1)}, {neg(7), 1, neg(14), neg(4)},
		{neg(1), 63, least, neg(1)}, {neg(1), 1, neg(2), neg(1)}, {neg(1), 64, neg(1), neg(1)},
		{least, 1, 0, neg(1 << 62)}, {least, 62, 0, neg(2)}, {least, 63, 0, neg(1)}, {least, 0, least, least},
		{most, 1, neg(2), 1<<62 - 1}, {most, 62, neg(1 << 62), 1}, {most, 63, least, 0}, {most, 64, most, most}, {0, 63, 0, 0}, {1 << 62, 1, least, 1 << 61}, {1 << 62, 2, 0, 1 << 60},
	} {
		wantArith(t, api.ShlInt, c.a, c.b, c.up)
		wantArith(t, api.ShrInt, c.a, c.b, c.down)
	}
}

// P11.1: LtInt at equal numbers, across 0 and at the ends, both ways round.
func TestLessOfInts(t *testing.T) {
	rising := []uint64{least, least + 1, neg(1 << 32), neg(2), neg(1), 0, 1, 2, 1 << 32, most - 1, most}
	for i, a := range rising {
		for j, b := range rising {
			want := uint64(0)
			if i < j {
				want = 1
			}
			wantArith(t, api.LtInt, a, b, want)
		}
	}
}

// P11.1: truths other than 0 and 1 count as true.
func TestTruths(t *testing.T) {
	truths := []uint64{1, 2, 3, 4, 256, 1 << 32, least, most, neg(1), neg(2)}
	wantArith(t, api.AndB, 0, 0, 0)
	wantArith(t, api.OrB, 0, 0, 0)
	for _, a := range truths {
		wantArith(t, api.AndB, a, 0, 0)
		wantArith(t, api.AndB, 0, a, 0)
		wantArith(t, api.OrB, a, 0, 1)
		wantArith(t, api.OrB, 0, a, 1)
		for _, b := range truths {
			wantArith(t, api.AndB, a, b, 1)
			wantArith(t, api.OrB, a, b, 1)
		}
	}
}

// P11.1, R2, R3: ways that are none, ahead of division by 0.
func TestWrongWays(t *testing.T) {
	for _, way := range []int{math.MinInt, math.MinInt + 1, -1 << 32, -19, -4, -1, 0, 20, 21, 64, 256 + api.AddInt, 1 << 16, 1<<32 + api.AddInt, 1<<32 + api.DivInt, math.MaxInt - 1, math.MaxInt} {
		for _, n := range ints() {
			wantNone(t, way, n, 0, api.ErrArg)
			wantNone(t, way, n, n, api.ErrArg)
		}
	}
}

// ints are those that the tests hold against each other.
func ints() []uint64 {
	return []uint64{0, 1, 2, 3, 5, 7, 62, 63, 64, 65, 127, 128, 255, 1000003, 1 << 31, 1 << 32, 3037000500, 1 << 62, most - 1, most, least, least + 1, neg(1 << 62), neg(1 << 32), neg(1000003), neg(128), neg(65), neg(64), neg(63), neg(7), neg(3), neg(2), neg(1)}
}

// wantLikeModel holds all ways of Ints against numbers that have no ends.
func wantLikeModel(t *testing.T, a, b uint64) {
	t.Helper()
	for way := api.AddInt; way <= api.LtInt; way++ {
		if b == 0 && (way == api.DivInt || way == api.RemInt) {
			wantNone(t, way, a, b, api.ErrZero)
			continue
		}
		wantArith(t, way, a, b, modelInts(way, a, b))
	}
}

// modelInts goes by the chapter's words with numbers of any length, wrapped at last.
func modelInts(way int, a, b uint64) uint64 {
	x, y, z := big.NewInt(int64(a)), big.NewInt(int64(b)), new(big.Int)
	by := uint(new(big.Int).Mod(y, big.NewInt(64)).Uint64())
	switch way {
	case api.AddInt:
		z.Add(x, y)
	case api.SubInt:
		z.Sub(x, y)
	case api.MulInt:
		z.Mul(x, y)
	case api.DivInt:
		z.Quo(x, y)
	case api.RemInt:
		z.Sub(x, z.Mul(y, z.Quo(x, y)))
	case api.AndInt:
		z.And(x, y)
	case api.OrInt:
		z.Or(x, y)
	case api.XorInt:
		z.Xor(x, y)
	case api.ShlInt:
		z.Lsh(x, by)
	case api.ShrInt:
		z.Div(x, new(big.Int).Lsh(big.NewInt(1), by)) // cut downwards
	case api.LtInt:
		z.SetInt64(int64((1 - x.Cmp(y)) / 2))
	}
	return z.Mod(z, new(big.Int).Lsh(big.NewInt(1), 64)).Uint64()
}

// P11.1, held against the model at all pairs of the numbers that matter, and at drawn ones.
func TestIntsAgainstModel(t *testing.T) {
	for _, a := range ints() {
		for _, b := range ints() {
			wantLikeModel(t, a, b)
		}
	}
	d := draw(11)
	for range 20000 {
		a, b := d.next()>>d.below(64), d.next()>>d.below(64)
		wantLikeModel(t, a*pick(&d, 1, neg(1)), b*pick(&d, 1, neg(1)))
	}
}

// P11.1, what follows: a quotient times what divided, and the rest, are what was divided.
func TestQuotientAndRest(t *testing.T) {
	d := draw(12)
	for range 5000 {
		a, b := api.Cell{N: d.next() >> d.below(64)}, api.Cell{N: d.next()>>d.below(64) | 1}
		q, _ := ops.Arith(api.DivInt, a, b)
		r, _ := ops.Arith(api.RemInt, a, b)
		product, _ := ops.Arith(api.MulInt, q, b)
		if sum, e := ops.Arith(api.AddInt, product, r); sum.N != a.N || e != api.OK {
			t.Errorf("%d by %d: %d and %d are left", a.N, b.N, q.N, r.N)
		}
	}
}
