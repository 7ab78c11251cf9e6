package cells_test

import (
	"fmt"
	"math"
	"strings"
	"testing"

	"heddle/api"
	"heddle/cells"
)

func wantText(t *testing.T, i int, v []api.Cell, want string) {
	t.Helper()
	if s, e := cells.Text(table(), i, v); s != want || e != api.OK {
		t.Errorf("Text(type %d, %.100v) = %.200q, %d, want %.200q", i, v, s, e, want)
	}
}

// P3.3: the chapter's first example.
func TestFirstExample(t *testing.T) {
	wantText(t, aPair, pair(5, "a'b\n"), `{5 'a\27b\0a'}`)
	zero, e := cells.Zero(table(), pairs)
	if e != api.OK {
		t.Fatalf("Zero: %d", e)
	}
	wantText(t, pairs, zero, "[{0 ''} {0 ''}]")
	wantText(t, anIface, holding(anInt, num(math.MaxUint64)), "0:-1")
	wantText(t, aFloat, num(math.Float64bits(1)), "3ff0000000000000")
}

// P3.3: each kind.
func TestTextOfKinds(t *testing.T) {
	wantText(t, aBool, num(0), "false")
	wantText(t, aBool, num(1), "true")
	wantText(t, aPtr, num(0), "nil")
	wantText(t, aMap, num(0), "nil")
	wantText(t, anIter, num(0), "nil")
	for _, n := range []uint64{1, 2, 1<<31 - 1} {
		wantText(t, aPtr, num(n), "ptr")
		wantText(t, aMap, num(n), "map")
		wantText(t, anIter, num(n), "iter")
	}
	wantText(t, anIface, num(0), "nil")
	wantText(t, anIface, holding(aPtr, num(0)), "3:nil")
	wantText(t, anIface, holding(aPtr, num(9)), "3:ptr")
	wantText(t, anIface, holding(aMap, num(9)), "4:map")
	wantText(t, anIface, holding(aBool, num(1)), "9:true")
	wantText(t, anIface, holding(aFloat, num(0)), "8:0000000000000000")
	wantText(t, anIface, holding(aStr, text("")), "1:''")
	wantText(t, anIface, holding(lastType, num(1)), "15:{0000000000000001}")
}

// P3.3: numbers are read as int64.
func TestTextOfInts(t *testing.T) {
	for n, want := range map[int64]string{0: "0", 1: "1", 10: "10", -1: "-1", -10: "-10", math.MaxInt64: "9223372036854775807", math.MinInt64: "-9223372036854775808", 1 << 53: "9007199254740992", 1<<53 + 1: "9007199254740993"} {
		wantText(t, anInt, num(uint64(n)), want)
	}
}

// P3.3: every float that is none is nan, and none else.
func TestTextOfFloats(t *testing.T) {
	for _, bits := range []uint64{0x7ff0000000000001, 0x7ff8000000000000, 0x7fffffffffffffff, 0xfff0000000000001, 0xfff8000000000000, 0xffffffffffffffff, 0x7ff4000000000000} {
		wantText(t, aFloat, num(bits), "nan")
	}
	for _, bits := range []uint64{0, 1, 0x8000000000000000, 0x7ff0000000000000, 0xfff0000000000000, 0x7fefffffffffffff, 0xffefffffffffffff, 0x0123456789abcdef, 0x3fffffffffffffff, 0xbff0000000000000} {
		wantText(t, aFloat, num(bits), fmt.Sprintf("%016x", bits))
	}
}

// P3.3: every byte, alone and within others.
func TestTextOfBytes(t *testing.T) {
	all := ""
	for c := range 256 {
		s := string([]byte{byte(c)})
		want := s
		if c < 0x20 || c > 0x7e || c == '\'' || c == '\\' {
			want = fmt.Sprintf("\\%02x", c)
		}
		all += want
		wantText(t, aStr, text(s), "'"+want+"'")
	}
	every := make([]byte, 256)
	for c := range every {
		every[c] = byte(c)
	}
	wantText(t, aStr, text(string(every)), "'"+all+"'")
	wantText(t, aStr, text(""), "''")
	wantText(t, aStr, text("a b"), "'a b'")
	wantText(t, aStr, text("'\\'"), `'\27\5c\27'`)
	wantText(t, aStr, text("é"), `'\c3\a9'`)
	wantText(t, aStr, text("~\x7f\x1f "), `'~\7f\1f '`)
	wantText(t, aStr, text(strings.Repeat("\xff", api.MaxStr)), "'"+strings.Repeat(`\ff`, api.MaxStr)+"'")
}

// P3.3: structs, arrays and boxes in one another.
func TestTextOfParts(t *testing.T) {
	wantText(t, lastType, num(0), "{0000000000000000}")
	wantText(t, single, num(0), "[nil]")
	wantText(t, mixed, join(num(0), pair(5, "x y"), num(1)), "{nil {5 'x y'} true}")
	inner := holding(mixed, join(holding(aPair, pair(1, "")), pair(2, "]"), num(0)))
	wantText(t, mixes, join(inner, pair(3, "}"), num(1), holding(single, holding(pairs, join(pair(7, "a"), pair(8, "b")))), pair(4, ":"), num(0)),
		"[{10:{2:{1 ''} {2 ']'} false} {3 '}'} true} {14:[5:[{7 'a'} {8 'b'}]] {4 ':'} false}]")
	wantText(t, wrapped, make([]api.Cell, 16), "{["+strings.Repeat("nil ", 15)+"nil]}")
	wantText(t, anIface, chain(4), "14:[14:[0:1]]")
}

// P3.3: the longest texts there are.
func TestTextOfLargest(t *testing.T) {
	wantText(t, anIface, chain(api.MaxCells), strings.Repeat("14:[", 254)+"0:1"+strings.Repeat("]", 254))
	v, want := make([]api.Cell, 16), make([]string, 16)
	long := strings.Repeat("\xff", api.MaxStr)
	for i := range v {
		v[i] = holding(aStr, text(long))[0]
		want[i] = "1:'" + strings.Repeat(`\ff`, api.MaxStr) + "'"
	}
	wantText(t, sixteen, v, "["+strings.Join(want, " ")+"]")
}
