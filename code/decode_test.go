package code_test

import (
	"bytes"
	"encoding/binary"
	"slices"
	"strings"
	"testing"

	"heddle/api"
	"heddle/code"
)

// encoded answers the bytes of a program that has some.
func encoded(t *testing.T, p api.Prog) []byte {
	t.Helper()
	b, e := code.Encode(p)
	if e != api.OK {
		t.Fatalf("Encode(%v): %d", p, e)
	}
	return b
}

// P2, P18.3: there and back.
func TestThereAndBack(t *testing.T) {
	for _, p := range some() {
		b := encoded(t, p)
		wantDecode(t, b, p)
		q, _, _ := code.Decode(b)
		if !code.Same(p, q) {
			t.Errorf("%v came back as %v", p, q)
		}
		wantEncode(t, q, b)
	}
}

// starts answers the places at which the numbers of the sample begin, and which of them are long ones.
func starts() (list []int, long map[int]bool) {
	b := sampleBytes()
	long = map[int]bool{}
	at := 0
	number := func() int {
		list = append(list, at)
		n, size := binary.Uvarint(b[at:])
		at += size
		return int(n)
	}
	numbers := func(n int) {
		for range n {
			number()
		}
	}
	for range number() {
		switch number() {
		case 5, 10:
			numbers(1)
		case 6, 9:
			numbers(2)
		case 8:
			numbers(number())
		}
	}
	for range number() {
		at += number()
	}
	numbers(number())
	for range number() {
		numbers(1)
		numbers(number())
		numbers(1)
		for range number() {
			for _, letter := range lettersOf(number()) {
				long[at] = letter == 'N'
				if n := number(); letter == 'G' {
					numbers(n)
				}
			}
		}
	}
	if at != len(b) {
		panic("the sample was read wrong")
	}
	return list, long
}

// P18.3: the bytes end too early, wherever they are cut. What is at fault is the number that is cut or would be next, or the length of the text that is cut.
func TestDecodeCut(t *testing.T) {
	b := sampleBytes()
	list, _ := starts()
	place := 0
	for n := range b {
		if slices.Contains(list, n) {
			place = n
		}
		wantFault(t, b[:n], place, api.ErrText)
	}
	wantFault(t, nil, 0, api.ErrText)
	for n := range 4 {
		wantFault(t, make([]byte, n), n, api.ErrText)
	}
}

// P18.3: a number that is not written as told, or is too high, at every place at which one stands.
func TestDecodeWrongNumbers(t *testing.T) {
	b := sampleBytes()
	list, long := starts()
	for i, at := range list {
		end := len(b)
		if i+1 < len(list) {
			end = list[i+1]
		}
		rest := b[end:]
		for _, wrong := range [][]byte{
			{0x80, 0},
			{0x85, 0},
			{0x85, 0x80, 0},
			{0x85, 0x80, 0x80, 0x80, 0x80, 0},
			join(bytes.Repeat([]byte{0xff}, 9), []byte{2}),
			join(bytes.Repeat([]byte{0x80}, 10), []byte{1}),
			join(bytes.Repeat([]byte{0x80}, 30), []byte{0}),
			join(bytes.Repeat([]byte{0x80}, 30), []byte{1}),
			bytes.Repeat([]byte{0x80}, 300),
		} {
			wantFault(t, join(b[:at], wrong), at, api.ErrText)
			if wrong[len(wrong)-1] < 0x80 {
				wantFault(t, join(b[:at], wrong, rest), at, api.ErrText)
			}
		}
		for _, high := range [][]byte{above, {0xff, 0xff, 0xff, 0xff, 15}, {0x80, 0x80, 0x80, 0x80, 16}, longest} {
			if long[at] {
				holdDecode(t, join(b[:at], high, rest))
				if p, _, e := code.Decode(join(b[:at], high, rest)); e != api.OK || len(p.Funcs) != 4 {
					t.Errorf("a long number at %d: %d", at, e)
				}
				continue
			}
			wantFault(t, join(b[:at], high, rest), at, api.ErrText)
		}
	}
}

// P18.3: a Kind that is none, ahead of what follows.
func TestDecodeKinds(t *testing.T) {
	for _, kind := range [][]byte{{0}, {11}, {12}, {127}, {0x80, 1}, {0x82, 1}, {0x82, 2}, {0x85, 0x80, 0x80, 0x80, 1}, most} {
		wantFault(t, join([]byte{1}, kind, []byte{0, 0, 0}), 1, api.ErrText)
		wantFault(t, join([]byte{1}, kind), 1, api.ErrText)
		wantFault(t, join([]byte{3, 6, 0, 0}, kind, []byte{2, 0, 0, 0}), 4, api.ErrText)
	}
}

// P18.3: an Op that is none, ahead of what follows.
func TestDecodeOps(t *testing.T) {
	for _, op := range [][]byte{{0}, {42}, {43}, {127}, {0x80, 1}, {0x85, 1}, {0x85, 2}, {0xa8, 1}, {0x85, 0x80, 0x80, 0x80, 1}, most} {
		wantFault(t, join([]byte{0, 0, 0, 1, 0, 0, 0, 1}, op), 8, api.ErrText)
		wantFault(t, join([]byte{0, 0, 0, 1, 0, 0, 0, 2, 40}, op, []byte{0, 0, 0}), 9, api.ErrText)
		wantFault(t, join([]byte{0, 0, 0, 2, 0, 0, 0, 1, 40, 0, 0, 0, 2, 39, 0}, op, []byte{0, 0, 0}), 15, api.ErrText)
	}
}

// P18.3: a string's length, if that many bytes are not left, at which it begins.
func TestDecodeLengths(t *testing.T) {
	wantFault(t, []byte{0, 1, 1}, 2, api.ErrText)
	wantFault(t, []byte{0, 1, 4, 'a', 'b', 'c'}, 2, api.ErrText)
	// As many bytes are left, but none behind them.
	wantFault(t, []byte{0, 1, 3, 'a', 'b', 'c'}, 6, api.ErrText)
	wantFault(t, []byte{0, 1, 3, 'a', 'b', 'c', 0}, 7, api.ErrText)
	wantDecode(t, []byte{0, 1, 3, 'a', 'b', 'c', 0, 0}, api.Prog{Strs: []string{"abc"}})
	wantDecode(t, []byte{0, 1, 1, 'a', 0, 0}, api.Prog{Strs: []string{"a"}})
	// The second of two.
	wantFault(t, []byte{0, 2, 1, 0x80, 3, 0, 0}, 4, api.ErrText)
	wantFault(t, []byte{0, 2, 0, 1}, 3, api.ErrText)
	for _, length := range [][]byte{most, {0x80, 0x80, 0x80, 0x80, 4}, {0x80, 1}, {0x83, 1}} {
		wantFault(t, join([]byte{0, 1}, length, []byte{'a', 'b', 'c', 0, 0}), 2, api.ErrText)
	}
	text := strings.Repeat("x", 300)
	wantDecode(t, join([]byte{0, 1, 0xac, 2}, []byte(text), []byte{0, 0}), api.Prog{Strs: []string{text}})
	wantFault(t, join([]byte{0, 1, 0xad, 2}, []byte(text)), 2, api.ErrText)
}

// P18.3: bytes left over, behind the last function.
func TestDecodeLeftOver(t *testing.T) {
	for _, p := range some() {
		b := encoded(t, p)
		for _, more := range [][]byte{{0}, {40}, {0x80}, {0xff, 0xff}, bytes.Repeat([]byte{0}, 1000)} {
			wantFault(t, join(b, more), len(b), api.ErrText)
		}
	}
}

// P18.3: counts that promise more than there is.
func TestDecodeCounts(t *testing.T) {
	for _, front := range [][]byte{{}, {0}, {0, 0}, {0, 0, 0}, {0, 0, 0, 1, 0}, {0, 0, 0, 1, 0, 0, 0}, {0, 0, 0, 1, 0, 0, 0, 1, 35, 0, 0}, {1, 8}} {
		wantFault(t, join(front, most), len(front)+5, api.ErrText)
		wantFault(t, join(front, []byte{5}), len(front)+1, api.ErrText)
	}
	wantFault(t, join(most, []byte{2, 2, 2}), 8, api.ErrText)
	wantFault(t, join([]byte{0}, most, []byte{1, 'a', 0, 0}), 10, api.ErrText)
	wantFault(t, join([]byte{0, 0}, most, []byte{1, 2}), 9, api.ErrText)
	wantFault(t, join([]byte{0, 0, 0}, most, []byte{0, 0, 0, 1, 40, 0}), 14, api.ErrText)
	wantFault(t, join([]byte{0, 0, 0, 1, 0, 0, 0}, most, []byte{40, 41}), 14, api.ErrText)
}

// P18.3: MaxBytes, and one more byte.
func TestDecodeTooManyBytes(t *testing.T) {
	wantFault(t, make([]byte, api.MaxBytes), 4, api.ErrText)
	wantFault(t, make([]byte, api.MaxBytes+1), 0, api.ErrLarge)
	wantFault(t, make([]byte, 1<<24), 0, api.ErrLarge)
	wantFault(t, bytes.Repeat([]byte{0x80}, api.MaxBytes), 0, api.ErrText)
	wantFault(t, bytes.Repeat([]byte{0x80}, api.MaxBytes+1), 0, api.ErrLarge)
	for name, build := range larger {
		b := encoded(t, build(fitting(t, build)))
		if _, e := holdDecode(t, b[:len(b)-1]); e != api.ErrText {
			t.Errorf("%s, cut: %d", name, e)
		}
		wantFault(t, append(slices.Clone(b), 0), 0, api.ErrLarge)
	}
}

// P18.3: programs that are not sound are read.
func TestDecodeUnsound(t *testing.T) {
	wantDecode(t, []byte{1, 8, 1, 0, 0, 0, 0}, api.Prog{Types: []api.Type{{Kind: api.KStruct, Fields: []int{0}}}})
	wantDecode(t, []byte{1, 10, 9, 0, 1, 7, 0}, api.Prog{Types: []api.Type{{Kind: api.KIter, Elem: 9}}, Globals: []int{7}})
	wantDecode(t, []byte{0, 0, 0, 1, 9, 1, 9, 9, 1, 33, 9}, api.Prog{Funcs: []api.Func{{Params: 9, Locals: []int{9}, Result: 9, Code: []api.Instr{{Op: api.OpJump, A: 9}}}}})
	wantDecode(t, []byte{0, 0, 0, 1, 0, 0, 0, 1, 6, 9, 9, 9, 99}, within(api.Instr{Op: api.OpArith, A: 9, B: 9, C: 9, D: 99}))
	wantDecode(t, []byte{0, 0, 0, 1, 0, 0, 0, 1, 3, 9, 9}, within(api.Instr{Op: api.OpBool, A: 9, N: 9}))
}
