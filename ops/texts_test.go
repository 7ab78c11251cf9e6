package ops_test

import (
	"math"
	"reflect"
	"strings"
	"testing"
	"unsafe"

	"heddle/api"
	"heddle/ops"
)

// wantLtStr asks with bare cells, and with cells that have all else set so that the numbers say otherwise.
func wantLtStr(t *testing.T, s, u string, want uint64) {
	t.Helper()
	for _, c := range [][2]api.Cell{{{S: s}, {S: u}}, {full(1, s), full(2, u)}, {full(2, s), full(1, u)}} {
		if x, e := ops.Arith(api.LtStr, c[0], c[1]); !reflect.DeepEqual(x, api.Cell{N: want}) || e != api.OK {
			t.Errorf("LtStr of %.20q, %.20q = %s, %d, want %d", s, u, show(x), e, want)
		}
	}
}

// rising are texts by their bytes: empty ones, some that begin with others, bytes 0 and 255.
func rising() []string {
	long := strings.Repeat("z", api.MaxStr)
	return []string{"", "\x00", "\x00\x00", "\x00a", "\x00\xff", "\x01", "A", "Z", "a", "a\x00", "a\x00b", "aa", "ab", "abc", "b", "ba", "z", long[1:], long, "é", "€", "\xfe\xff", "\xff", "\xff\x00", "\xff\xff", "\xff\xff\x00"}
}

// P11.1: LtStr at all pairs of them.
func TestLessOfTexts(t *testing.T) {
	for i, s := range rising() {
		for j, u := range rising() {
			want := uint64(0)
			if i < j {
				want = 1
			}
			wantLtStr(t, s, strings.Clone(u), want)
		}
	}
}

// P11.1: all short texts of few bytes, by their first difference.
func TestLessOfShortTexts(t *testing.T) {
	for _, s := range short() {
		for _, u := range short() {
			want, i := uint64(0), 0
			for i < len(s) && i < len(u) && s[i] == u[i] {
				i++
			}
			if i < len(u) && (i == len(s) || s[i] < u[i]) {
				want = 1
			}
			wantLtStr(t, s, u, want)
		}
	}
}

// short answers all texts of at most three of these bytes.
func short() []string {
	list := []string{""}
	for at := 0; len(list[at]) < 3; at++ {
		for _, c := range []string{"\x00", "a", "\x7f", "\xff"} {
			list = append(list, list[at]+c)
		}
	}
	return list
}

func wantConcat(t *testing.T, s, u, want string) {
	t.Helper()
	if x, e := ops.Concat(s, u); x != want || e != api.OK {
		t.Errorf("Concat(%.20q, %.20q) = %.40q of %d bytes, %d, want %.40q", s, u, x, len(x), e, want)
	}
}

func wantSlice(t *testing.T, s string, i, j uint64, want string, wantE api.Errno) {
	t.Helper()
	if x, e := ops.Slice(s, i, j); x != want || e != wantE {
		t.Errorf("Slice(%.20q, %d, %d) = %.40q, %d, want %.40q, %d", s, int64(i), int64(j), x, e, want, wantE)
	}
}

func wantByte(t *testing.T, s string, i, want uint64, wantE api.Errno) {
	t.Helper()
	if x, e := ops.Byte(s, i); x != want || e != wantE {
		t.Errorf("Byte(%.20q, %d) = %d, %d, want %d, %d", s, int64(i), x, e, want, wantE)
	}
}

// P11.2: the chapter's second example.
func TestSecondExample(t *testing.T) {
	wantSlice(t, "abc", 1, 3, "bc", api.OK)
	wantSlice(t, "abc", 2, 1, "", api.ErrRange)
	wantByte(t, "abc", neg(1), 0, api.ErrRange)
}

// P11.2: texts joined, empty ones and such of any bytes among them.
func TestConcat(t *testing.T) {
	wantConcat(t, "ab", "cd", "abcd")
	wantConcat(t, "cd", "ab", "cdab")
	wantConcat(t, "", "", "")
	wantConcat(t, "a", "", "a")
	wantConcat(t, "", "a", "a")
	wantConcat(t, "\x00", "\xff", "\x00\xff")
	wantConcat(t, "\xc3", "\xa9", "é")
	wantConcat(t, "a\x00", "\x00b", "a\x00\x00b")
	for _, s := range short() {
		for _, u := range short() {
			wantConcat(t, s, u, strings.Join([]string{s, u}, ""))
		}
	}
}

// P11.2, R3: a joined text of MaxStr bytes, and of more.
func TestConcatOfTooMuch(t *testing.T) {
	long := strings.Repeat("0123456789abcdef", api.MaxStr/8)
	for _, n := range []int{0, 1, 2, 15, 16, api.MaxStr / 2, api.MaxStr - 1, api.MaxStr} {
		s, u := long[:n], long[n:api.MaxStr]
		wantConcat(t, s, u, long[:api.MaxStr])
		for _, c := range [][2]string{{s + "x", u}, {s, u + "x"}, {s, long}, {long, u}, {long, long}, {long, s}} {
			if x, e := ops.Concat(c[0], c[1]); x != "" || e != api.ErrLarge {
				t.Errorf("Concat of %d and %d bytes: %d bytes, %d, want ErrLarge", len(c[0]), len(c[1]), len(x), e)
			}
		}
	}
	wantConcat(t, long[:api.MaxStr-1], "", long[:api.MaxStr-1])
}

// P11.2: short texts, cut at all places within and about them.
func TestSlices(t *testing.T) {
	wantSlice(t, "", 0, 0, "", api.OK)
	wantSlice(t, "", 0, 1, "", api.ErrRange)
	wantSlice(t, "a\x00\xffb", 1, 3, "\x00\xff", api.OK)
	wantSlice(t, "aé", 1, 2, "\xc3", api.OK)
	for _, s := range []string{"", "a", "abc", "\xff\x00\xff", "a longer one"} {
		length := int64(len(s))
		for i := int64(-3); i <= length+3; i++ {
			for j := int64(-3); j <= length+3; j++ {
				if 0 <= i && i <= j && j <= length {
					wantSlice(t, s, uint64(i), uint64(j), string([]byte(s)[i:j]), api.OK)
				} else {
					wantSlice(t, s, uint64(i), uint64(j), "", api.ErrRange)
				}
			}
		}
	}
}

// P11.2, R3: numbers at their ends, in either place and in both.
func TestSlicesFarOutside(t *testing.T) {
	far := []uint64{least, least + 1, neg(1 << 32), neg(1), most, most - 1, 1 << 32, 1<<32 + 1, 1 << 31, 4}
	for _, i := range far {
		for _, j := range far {
			wantSlice(t, "abc", i, j, "", api.ErrRange)
			wantSlice(t, "", i, j, "", api.ErrRange)
		}
		for near := range uint64(4) {
			wantSlice(t, "abc", i, near, "", api.ErrRange)
			wantSlice(t, "abc", near, i, "", api.ErrRange)
		}
	}
}

// P11.2: bytes at the first and the last place, at the length, below 0 and at the numbers' ends.
func TestBytes(t *testing.T) {
	every := make([]byte, 256)
	for i := range every {
		every[i] = byte(255 - i)
	}
	for i := range uint64(256) {
		wantByte(t, string(every), i, 255-i, api.OK)
	}
	wantByte(t, "abc", 0, 'a', api.OK)
	wantByte(t, "abc", 2, 'c', api.OK)
	wantByte(t, "é", 1, 0xa9, api.OK)
	for _, s := range []string{"", "a", "abc", string(every)} {
		length := uint64(len(s))
		for _, i := range []uint64{length, length + 1, neg(1), neg(2), neg(length) - 1, least, least + 1, most, 1 << 32, 1<<32 + 1, 1 << 31, math.MaxUint32} {
			wantByte(t, s, i, 0, api.ErrRange)
		}
	}
}

// P11.2: texts of more than MaxStr bytes are cut and picked from like others: the chapter has no error for them.
func TestLongTexts(t *testing.T) {
	long := strings.Repeat("0123456789", api.MaxStr)
	length := uint64(len(long))
	wantSlice(t, long, 0, length, long, api.OK)
	wantSlice(t, long, 5, length-3, long[5:length-3], api.OK)
	wantSlice(t, long, 0, length+1, "", api.ErrRange)
	wantByte(t, long, length-1, '9', api.OK)
	wantByte(t, long, length, 0, api.ErrRange)
}

// P11.2, what follows: a text's two pieces, joined, are the text.
func TestPiecesJoined(t *testing.T) {
	s := "a\x00piece\xffof text"
	for i := range uint64(len(s)) + 1 {
		left, _ := ops.Slice(s, 0, i)
		right, e := ops.Slice(s, i, uint64(len(s)))
		if e != api.OK {
			t.Errorf("Slice from %d on: %d", i, e)
		}
		wantConcat(t, left, right, s)
	}
}

// shares tells whether two texts have bytes of memory in common.
func shares(s, u string) bool {
	if s == "" || u == "" {
		return false
	}
	begin, other := uintptr(unsafe.Pointer(unsafe.StringData(s))), uintptr(unsafe.Pointer(unsafe.StringData(u)))
	return begin < other+uintptr(len(u)) && other < begin+uintptr(len(s))
}

// R4: texts that are answered lie in memory of their own.
func TestTextsAreNew(t *testing.T) {
	s := strings.Repeat("some text ", 20)
	for _, c := range [][2]string{{s, ""}, {"", s}, {s, s}} {
		x, _ := ops.Concat(c[0], c[1])
		y, _ := ops.Concat(c[0], c[1])
		if shares(x, s) || shares(x, y) {
			t.Errorf("Concat(%.20q, %.20q) shares memory", c[0], c[1])
		}
	}
	for _, c := range [][2]uint64{{0, 200}, {0, 100}, {100, 200}, {50, 60}} {
		x, _ := ops.Slice(s, c[0], c[1])
		y, _ := ops.Slice(s, c[0], c[1])
		if shares(x, s) || shares(x, y) {
			t.Errorf("Slice(.., %d, %d) shares memory", c[0], c[1])
		}
	}
}
