package ops_test

import (
	"math"
	"math/big"
	"testing"

	"heddle/api"
)

// The floats that matter.
const (
	theNan   = uint64(0x7FF8000000000001)
	minus    = uint64(1 << 63)            // -0, and the sign
	infinity = uint64(0x7ff0000000000000) // the positive one
	greatest = infinity - 1               // of those that are finite
	normal   = uint64(0x0010000000000000) // the least one that is not short of digits
	half     = uint64(0x3fe0000000000000)
	one      = uint64(0x3ff0000000000000)
	two      = uint64(0x4000000000000000)
	three    = uint64(0x4008000000000000)
)

func nans() []uint64 {
	return []uint64{0x7ff8000000000000, theNan, 0x7ff0000000000001, 0x7ff4000000000000, 0x7fffffffffffffff, 0xfff8000000000000, 0xfff8000000000001, 0xfff0000000000001, 0xffffffffffffffff, 0x7ff8000000000002}
}

// floats are those, but nans, that the tests hold against each other.
func floats() []uint64 {
	list := []uint64{0, 1, 2, 3, normal - 1, normal, normal + 1, half, one - 1, one, one + 1, one + 2, two, three, 0x4340000000000000, 0x4340000000000001, 0x3ca0000000000000, 0x3ca0000000000001, greatest - 1, greatest, infinity, 0x7fe0000000000000, 0x1ff0000000000000, 0x5fe0000000000000, 0x3fb999999999999a, 0x3fc999999999999a}
	for _, f := range list {
		list = append(list, f|minus)
	}
	return list
}

// P11.1: sums, differences, products and quotients of Floats: rounded ones, zeros, infinities, what overflows and what underflows.
func TestFloats(t *testing.T) {
	f := math.Float64bits
	for _, c := range []struct {
		way        int
		a, b, want uint64
	}{
		{api.AddF, f(1.5), f(2), f(3.5)}, {api.SubF, f(1.5), f(2), f(-0.5)}, {api.MulF, f(1.5), f(2), f(3)}, {api.DivF, f(1.5), f(2), f(0.75)}, {api.SubF, f(2), f(1.5), f(0.5)}, {api.DivF, f(3), f(2), f(1.5)}, {api.DivF, f(2), f(4), f(0.5)},
		// 0 and -0.
		{api.AddF, 0, 0, 0}, {api.AddF, 0, minus, 0}, {api.AddF, minus, 0, 0}, {api.AddF, minus, minus, minus},
		{api.SubF, 0, 0, 0}, {api.SubF, 0, minus, 0}, {api.SubF, minus, 0, minus}, {api.SubF, minus, minus, 0}, {api.SubF, one, one, 0}, {api.AddF, one, one | minus, 0},
		{api.MulF, 0, minus, minus}, {api.MulF, minus, minus, 0}, {api.MulF, one | minus, 0, minus}, {api.DivF, 0, one | minus, minus}, {api.DivF, minus, one, minus}, {api.DivF, minus, one | minus, 0},
		{api.DivF, one, 0, infinity}, {api.DivF, one, minus, infinity | minus}, {api.DivF, one | minus, 0, infinity | minus},
		{api.DivF, 0, 0, theNan}, {api.DivF, 0, minus, theNan}, {api.DivF, minus, 0, theNan}, {api.DivF, minus, minus, theNan},
		// Infinities against each other and against 0.
		{api.AddF, infinity, infinity, infinity}, {api.AddF, infinity, infinity | minus, theNan}, {api.AddF, infinity | minus, infinity, theNan}, {api.AddF, infinity | minus, infinity | minus, infinity | minus},
		{api.SubF, infinity, infinity, theNan}, {api.SubF, infinity, infinity | minus, infinity}, {api.SubF, infinity | minus, infinity | minus, theNan}, {api.SubF, one, infinity, infinity | minus},
		{api.MulF, infinity, infinity | minus, infinity | minus}, {api.MulF, infinity, 0, theNan}, {api.MulF, minus, infinity, theNan}, {api.MulF, 0, infinity | minus, theNan}, {api.MulF, infinity, two, infinity},
		{api.DivF, infinity, infinity, theNan}, {api.DivF, infinity, infinity | minus, theNan}, {api.DivF, infinity, 0, infinity}, {api.DivF, infinity, minus, infinity | minus}, {api.DivF, 0, infinity, 0}, {api.DivF, one, infinity | minus, minus},
		// What overflows, what underflows.
		{api.AddF, greatest, greatest, infinity}, {api.SubF, greatest | minus, greatest, infinity | minus}, {api.MulF, greatest, two, infinity}, {api.MulF, greatest, two | minus, infinity | minus}, {api.DivF, greatest, half, infinity}, {api.AddF, greatest, one, greatest}, {api.DivF, one, 1, infinity},
		{api.MulF, 1, half, 0}, {api.MulF, 1 | minus, half, minus}, {api.MulF, 3, half, 2}, {api.MulF, 1, 1, 0}, {api.MulF, 1, 1 | minus, minus}, {api.DivF, normal, two, normal >> 1}, {api.DivF, 1, two, 0}, {api.SubF, normal + 1, normal, 1}, {api.DivF, 1, infinity, 0},
		// What is rounded: to the nearer one, to the even one of two that are as near.
		{api.AddF, f(0.1), f(0.2), 0x3fd3333333333334}, {api.DivF, one, three, 0x3fd5555555555555}, {api.DivF, two, three, 0x3fe5555555555555}, {api.MulF, f(0.1), three, 0x3fd3333333333334},
		{api.AddF, f(9007199254740992), one, f(9007199254740992)}, {api.AddF, f(9007199254740994), one, f(9007199254740996)}, {api.AddF, f(9007199254740992), three, f(9007199254740996)}, {api.AddF, one, 0x3ca0000000000000, one}, {api.AddF, one, 0x3ca0000000000001, one + 1}, {api.AddF, one + 1, 0x3ca0000000000000, one + 2},
		{api.MulF, f(9007199254740991), f(9007199254740991), f(8.112963841460666e31)}, {api.SubF, f(9007199254740992), half, f(9007199254740992)}, {api.MulF, one + 1, one + 1, one + 2},
	} {
		wantArith(t, c.way, c.a, c.b, c.want)
	}
}

// P11.1: every nan that comes out has the same bits, whichever ones came in and on which side.
func TestNans(t *testing.T) {
	for way := api.AddF; way <= api.DivF; way++ {
		for _, nan := range nans() {
			for _, x := range append(floats(), nans()...) {
				wantArith(t, way, nan, x, theNan)
				wantArith(t, way, x, nan, theNan)
			}
		}
	}
}

// P11.1: LtF is 0 with a nan on either side, and at 0 and -0.
func TestLessOfFloats(t *testing.T) {
	rising := []uint64{infinity | minus, greatest | minus, two | minus, one | minus, normal | minus, 1 | minus, 0, 1, normal, half, one, one + 1, two, greatest, infinity}
	for i, a := range rising {
		for j, b := range rising {
			want := uint64(0)
			if i < j {
				want = 1
			}
			wantArith(t, api.LtF, a, b, want)
		}
	}
	for _, nan := range nans() {
		for _, x := range append(floats(), nans()...) {
			wantArith(t, api.LtF, nan, x, 0)
			wantArith(t, api.LtF, x, nan, 0)
		}
	}
	wantArith(t, api.LtF, 0, minus, 0)
	wantArith(t, api.LtF, minus, 0, 0)
	wantArith(t, api.LtF, minus, minus, 0)
	wantArith(t, api.LtF, minus, 1, 1)
	wantArith(t, api.LtF, 1|minus, minus, 1)
}

// modelFloats reckons with fractions, rounds once, and goes by the rules for signs where the fractions know none.
func modelFloats(way int, a, b uint64) uint64 {
	if way == api.SubF {
		return modelFloats(api.AddF, a, b^minus)
	}
	sign := (a ^ b) & minus
	x, finiteX := fraction(a)
	y, finiteY := fraction(b)
	switch {
	case way == api.AddF && !(finiteX && finiteY):
		return modelInfiniteSum(a, finiteX, b, finiteY)
	case way == api.AddF:
		x.Add(x, y)
		if sign = 0; a&b == minus {
			sign = minus // of two zeros that are both below
		}
	case way == api.MulF && !(finiteX && finiteY):
		return nanOr(a<<1 == 0 || b<<1 == 0, infinity|sign)
	case way == api.MulF:
		x.Mul(x, y)
	case !finiteX:
		return nanOr(!finiteY, infinity|sign)
	case !finiteY:
		return sign
	case y.Sign() == 0:
		return nanOr(x.Sign() == 0, infinity|sign)
	default:
		x.Quo(x, y)
	}
	if x.Sign() == 0 {
		return sign
	}
	f, _ := x.Float64()
	return math.Float64bits(f)
}

func modelInfiniteSum(a uint64, finiteA bool, b uint64, finiteB bool) uint64 {
	if finiteA {
		return b
	}
	return nanOr(!finiteB && a != b, a)
}

func nanOr(none bool, bits uint64) uint64 {
	if none {
		return theNan
	}
	return bits
}

// fraction answers the number that a float is, if it is finite.
func fraction(bits uint64) (*big.Rat, bool) {
	r := new(big.Rat)
	if r.SetFloat64(math.Float64frombits(bits)) == nil {
		return new(big.Rat), false
	}
	return r, true
}

func wantLikeFractions(t *testing.T, a, b uint64) {
	t.Helper()
	for way := api.AddF; way <= api.DivF; way++ {
		wantArith(t, way, a, b, modelFloats(way, a, b))
	}
}

// P11.1, held against fractions at all pairs of the floats that matter, and at drawn ones: each is rounded once.
func TestFloatsAgainstModel(t *testing.T) {
	for _, a := range floats() {
		for _, b := range floats() {
			wantLikeFractions(t, a, b)
		}
	}
	d := draw(13)
	for range 4000 {
		a, b := d.float(), d.float()
		wantLikeFractions(t, a, b)
	}
}

// float answers a float that is no nan; its size is far from 1 only now and then, so that sums are rounded.
func (d *draw) float() uint64 {
	bits := d.next()&(minus|normal-1) | uint64(1000+d.below(60))<<52
	switch d.below(8) {
	case 0:
		bits = d.next()
	case 1:
		bits &^= 0x7fff << 48 // hardly above 0
	}
	if math.IsNaN(math.Float64frombits(bits)) {
		return bits & minus
	}
	return bits
}
