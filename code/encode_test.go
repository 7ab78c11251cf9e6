package code_test

import (
	"bytes"
	"math"
	"slices"
	"strings"
	"testing"

	"heddle/api"
	"heddle/progs"
)

// P18.2, P18.3: the chapter's example.
func TestExample(t *testing.T) {
	wantBoth(t, api.Prog{}, []byte{0, 0, 0, 0})
	wantBoth(t, within(api.Instr{Op: api.OpHalt}), []byte{0, 0, 0, 1, 0, 0, 0, 1, 40})
	wantFault(t, []byte{0, 0, 0, 1, 0, 0, 0, 1, 42}, 8, api.ErrText)
	wantFault(t, []byte{0, 1, 5, 65}, 2, api.ErrText)
}

// P18.2, P18.3: each operation has its fields, in the chapter's order.
func TestOperationsAsBytes(t *testing.T) {
	for op := 1; op <= opCount; op++ {
		wantBoth(t, within(full(op)), join([]byte{0, 0, 0, 1, 0, 0, 0, 1}, fullBytes(op)))
		// Fields that are zero are written too.
		none := join([]byte{0, 0, 0, 1, 0, 0, 0, 2, byte(op)}, make([]byte, len(lettersOf(op))), []byte{api.OpYield})
		wantBoth(t, within(api.Instr{Op: op}, api.Instr{Op: api.OpYield}), none)
	}
}

// P18.2, P18.3: each kind has its numbers, in chapter 2's order, though the table is not sound.
func TestKindsAsBytes(t *testing.T) {
	for _, c := range []struct {
		one api.Type
		b   []byte
	}{
		{api.Type{Kind: api.KBool}, []byte{1}},
		{api.Type{Kind: api.KInt}, []byte{2}},
		{api.Type{Kind: api.KFloat}, []byte{3}},
		{api.Type{Kind: api.KStr}, []byte{4}},
		{api.Type{Kind: api.KPtr, Elem: 9}, []byte{5, 9}},
		{api.Type{Kind: api.KMap, Key: 3, Elem: 200}, []byte{6, 3, 200, 1}},
		{api.Type{Kind: api.KIface}, []byte{7}},
		{api.Type{Kind: api.KStruct}, []byte{8, 0}},
		{api.Type{Kind: api.KStruct, Fields: []int{0, 5, 4}}, []byte{8, 3, 0, 5, 4}},
		{api.Type{Kind: api.KStruct, Fields: make([]int, 20)}, join([]byte{8, 20}, make([]byte, 20))},
		{api.Type{Kind: api.KArray, Elem: 7, Len: 0}, []byte{9, 7, 0}},
		{api.Type{Kind: api.KArray, Elem: 7, Len: 17}, []byte{9, 7, 17}},
		{api.Type{Kind: api.KArray, Elem: 7, Len: limit}, join([]byte{9, 7}, most)},
		{api.Type{Kind: api.KIter, Elem: 5}, []byte{10, 5}},
	} {
		wantBoth(t, api.Prog{Types: []api.Type{c.one}}, join([]byte{1}, c.b, []byte{0, 0, 0}))
		wantBoth(t, api.Prog{Types: []api.Type{c.one, {Kind: api.KFloat}}, Globals: []int{5}}, join([]byte{2}, c.b, []byte{3, 0, 1, 5, 0}))
	}
	// More types than a sound table has.
	wantBoth(t, api.Prog{Types: slices.Repeat([]api.Type{{Kind: api.KStr}}, 200)}, join([]byte{200, 1}, bytes.Repeat([]byte{4}, 200), []byte{0, 0, 0}))
}

// P18.2, P18.3: strings and globals, more and longer ones than sound programs have.
func TestStringsAndGlobalsAsBytes(t *testing.T) {
	wantBoth(t, api.Prog{Strs: []string{""}}, []byte{0, 1, 0, 0, 0})
	wantBoth(t, api.Prog{Strs: []string{"ab", "", "\x80\x00\xff"}}, []byte{0, 3, 2, 'a', 'b', 0, 3, 0x80, 0, 0xff, 0, 0})
	long := strings.Repeat("x", api.MaxStr+1)
	wantBoth(t, api.Prog{Strs: []string{long, "y"}}, join([]byte{0, 2, 0x81, 32}, []byte(long), []byte{1, 'y', 0, 0}))
	wantBoth(t, api.Prog{Strs: make([]string, 300)}, join([]byte{0, 0xac, 2}, make([]byte, 300), []byte{0, 0}))
	wantBoth(t, api.Prog{Globals: []int{0}}, []byte{0, 0, 1, 0, 0})
	wantBoth(t, api.Prog{Globals: []int{127, 128, limit, 0}}, join([]byte{0, 0, 4, 127, 128, 1}, most, []byte{0, 0}))
	wantBoth(t, api.Prog{Globals: make([]int, 300)}, join([]byte{0, 0, 0xac, 2}, make([]byte, 300), []byte{0}))
}

// P18.2, P18.3: functions, one behind the other, more and longer ones than sound programs have.
func TestFunctionsAsBytes(t *testing.T) {
	wantBoth(t, api.Prog{Funcs: []api.Func{{}}}, []byte{0, 0, 0, 1, 0, 0, 0, 0})
	wantBoth(t, api.Prog{Funcs: []api.Func{{Params: 1, Locals: []int{2, 3}, Result: 4, Code: []api.Instr{{Op: api.OpHalt}, {Op: api.OpRet, A: 5}}}, {Params: 6, Result: 7}}},
		[]byte{0, 0, 0, 2, 1, 2, 2, 3, 4, 2, 40, 36, 5, 6, 0, 7, 0})
	wantBoth(t, api.Prog{Funcs: []api.Func{{Params: limit, Locals: []int{limit}, Result: limit}}}, join([]byte{0, 0, 0, 1}, most, []byte{1}, most, most, []byte{0}))
	wantBoth(t, api.Prog{Funcs: make([]api.Func, 200)}, join([]byte{0, 0, 0, 200, 1}, make([]byte, 800)))
	wantBoth(t, api.Prog{Funcs: []api.Func{{Locals: make([]int, 200), Code: slices.Repeat([]api.Instr{{Op: api.OpHalt}}, 2000)}}},
		join([]byte{0, 0, 0, 1, 0, 200, 1}, make([]byte, 200), []byte{0, 0xd0, 15}, bytes.Repeat([]byte{40}, 2000)))
	wantBoth(t, within(api.Instr{Op: api.OpCall, Args: make([]int, 200)}), join([]byte{0, 0, 0, 1, 0, 0, 0, 1, 35, 0, 0, 200, 1}, make([]byte, 200)))
}

// P18.2, P18.3: a program with something of everything.
func TestSample(t *testing.T) {
	wantBoth(t, sample(), sampleBytes())
}

// P18.2, P18.3: numbers, on both sides of each further byte; N up to 2^64 - 1.
func TestNumbersAsBytes(t *testing.T) {
	for _, c := range []struct {
		n uint64
		b []byte
	}{
		{0, []byte{0}}, {1, []byte{1}}, {127, []byte{127}}, {128, []byte{0x80, 1}}, {16383, []byte{0xff, 127}}, {16384, []byte{0x80, 0x80, 1}},
		{limit, most}, {limit + 1, above}, {1<<63 - 1, []byte{0xff, 0xff, 0xff, 0xff, 0xff, 0xff, 0xff, 0xff, 127}},
		{1 << 63, []byte{0x80, 0x80, 0x80, 0x80, 0x80, 0x80, 0x80, 0x80, 0x80, 1}}, {math.MaxUint64, longest},
	} {
		for _, op := range []int{api.OpInt, api.OpFloat, api.OpBool} {
			wantBoth(t, within(api.Instr{Op: op, A: 3, N: c.n}), join([]byte{0, 0, 0, 1, 0, 0, 0, 1, byte(op), 3}, c.b))
		}
		if c.n > limit {
			continue
		}
		n := int(c.n)
		wantBoth(t, within(api.Instr{Op: api.OpNext, A: n, B: n, C: n, D: n}), join([]byte{0, 0, 0, 1, 0, 0, 0, 1, 32}, c.b, c.b, c.b, c.b))
		wantBoth(t, within(api.Instr{Op: api.OpCall, A: n, B: n, Args: []int{n, n}}), join([]byte{0, 0, 0, 1, 0, 0, 0, 1, 35}, c.b, c.b, []byte{2}, c.b, c.b))
	}
}

// P18.2: what can be written: each Op and Kind is one of api's, no number is below 0 or above 2147483647, and what is not named is zero.
func TestWhatCanBeWritten(t *testing.T) {
	for _, edge := range progs.Edges(lettersOf) {
		if edge.Written {
			wantDecode(t, encoded(t, edge.Prog), edge.Prog)
		} else {
			wantNoBytes(t, "what can't be written", edge.Prog, api.ErrForm)
		}
		if t.Failed() {
			t.Fatalf("%v", edge.Prog)
		}
	}
	wantNoBytes(t, "a long number", within(api.Instr{Op: api.OpHalt, N: math.MaxUint64}), api.ErrForm)
}

// larger are programs that grow by n bytes at one place, all of which ask for MaxBytes bytes if n is right.
var larger = map[string]func(n int) api.Prog{
	"types":   func(n int) api.Prog { return api.Prog{Types: slices.Repeat([]api.Type{{Kind: api.KInt}}, n)} },
	"fields":  func(n int) api.Prog { return api.Prog{Types: []api.Type{{Kind: api.KStruct, Fields: make([]int, n)}}} },
	"a text":  func(n int) api.Prog { return api.Prog{Strs: []string{strings.Repeat("x", n)}} },
	"texts":   func(n int) api.Prog { return api.Prog{Strs: make([]string, n)} },
	"globals": func(n int) api.Prog { return api.Prog{Globals: make([]int, n)} },
	"locals":  func(n int) api.Prog { return api.Prog{Funcs: []api.Func{{Locals: make([]int, n)}}} },
	"code":    func(n int) api.Prog { return within(slices.Repeat([]api.Instr{{Op: api.OpHalt}}, n)...) },
	"args":    func(n int) api.Prog { return within(api.Instr{Op: api.OpCall, Args: make([]int, n)}) },
	"functions": func(n int) api.Prog {
		return api.Prog{Strs: []string{strings.Repeat("x", n%4)}, Funcs: make([]api.Func, n/4)}
	},
	"long numbers": func(n int) api.Prog {
		return api.Prog{Strs: []string{strings.Repeat("x", n%12)}, Funcs: []api.Func{{Code: slices.Repeat([]api.Instr{{Op: api.OpInt, N: math.MaxUint64}}, n/12)}}}
	},
}

// fitting answers the greatest n of which a program has at most MaxBytes bytes, by how many it has with few.
func fitting(t *testing.T, build func(n int) api.Prog) int {
	// 40000 of them have counts of as many bytes as the greatest has.
	n := 40000
	return n + api.MaxBytes - len(encoded(t, build(n)))
}

// P18.2, P18.3: MaxBytes bytes, and one more.
func TestEncodeLarge(t *testing.T) {
	for name, build := range larger {
		n := fitting(t, build)
		b := encoded(t, build(n))
		if len(b) != api.MaxBytes {
			t.Fatalf("%s: %d bytes", name, len(b))
		}
		wantDecode(t, b, build(n))
		for _, more := range []int{1, 2, 3, 100, 100000} {
			wantNoBytes(t, name, build(n+more), api.ErrLarge)
		}
	}
	// What comes behind counts too.
	text := strings.Repeat("x", api.MaxBytes-7)
	wantNoBytes(t, "a text and then a number", api.Prog{Strs: []string{text}, Globals: []int{1}}, api.ErrLarge)
	wantNoBytes(t, "two texts", api.Prog{Strs: []string{text, ""}}, api.ErrLarge)
	wantNoBytes(t, "a text behind too long a one", api.Prog{Strs: []string{text + text, text}}, api.ErrLarge)
	if b := encoded(t, api.Prog{Strs: []string{text}}); len(b) != api.MaxBytes {
		t.Errorf("%d bytes", len(b))
	}
	// Five bytes a number, beyond the limit by each of one to five of them.
	for n := range 5 {
		ts := slices.Concat(slices.Repeat([]api.Type{{Kind: api.KInt}}, n), slices.Repeat([]api.Type{{Kind: api.KPtr, Elem: limit}}, api.MaxBytes/6+1))
		wantNoBytes(t, "types and then texts", api.Prog{Types: ts, Strs: []string{"", "x", text}}, api.ErrLarge)
	}
}

// P18.2: programs that are far too large.
func TestEncodeFarTooLarge(t *testing.T) {
	list := slices.Repeat([]api.Instr{{Op: api.OpCall, A: limit, B: limit, Args: make([]int, 1000)}}, 1000)
	wantNoBytes(t, "code", api.Prog{Funcs: slices.Repeat([]api.Func{{Code: list}}, 50)}, api.ErrLarge)
	wantNoBytes(t, "texts", api.Prog{Strs: slices.Repeat([]string{strings.Repeat("x", 1<<24)}, 100)}, api.ErrLarge)
	wantNoBytes(t, "globals", api.Prog{Globals: make([]int, 1<<23)}, api.ErrLarge)
}

// P18.2, R2: what can't be written is ErrForm, however many bytes it would have.
func TestFormAheadOfLarge(t *testing.T) {
	for name, build := range larger {
		for _, n := range []int{api.MaxBytes, api.MaxBytes * 3} {
			p := build(n)
			p.Funcs = append(p.Funcs, api.Func{Code: []api.Instr{{}}})
			wantNoBytes(t, name+" and no Op", p, api.ErrForm)
			p = build(n)
			p.Types = append(p.Types, api.Type{Kind: api.KBool, Len: 1})
			wantNoBytes(t, name+" and a wrong type", p, api.ErrForm)
			p = build(n)
			p.Globals = append(p.Globals, -1)
			wantNoBytes(t, name+" and a wrong global", p, api.ErrForm)
		}
	}
}
