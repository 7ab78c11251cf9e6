package asm_test

import (
	"fmt"
	"math"
	"slices"
	"strings"
	"testing"

	"heddle/api"
	"heddle/progs"
)

// P20.1, P20.2: the chapter's first example.
func TestFirstExample(t *testing.T) {
	p := within(api.Instr{Op: api.OpInt, N: 5}, api.Instr{Op: api.OpOut}, api.Instr{Op: api.OpHalt})
	p.Types = []api.Type{{Kind: api.KInt}, {Kind: api.KMap}, {Kind: api.KIter, Elem: 1}}
	p.Funcs[0].Locals = []int{0}
	wantBoth(t, p, "type int\ntype map 0 0\ntype iter 1\nfunc 0 0 0\nint 0 5\nout 0\nhalt\n")
}

// P20.1, P20.2: a program with something of everything, and one without anything.
func TestSample(t *testing.T) {
	wantBoth(t, sample(), sampleText())
	wantBoth(t, api.Prog{}, "")
	wantBoth(t, api.Prog{Types: []api.Type{}, Strs: []string{}, Globals: []int{}, Funcs: []api.Func{}}, "")
}

// P20.1, P20.2: each operation's line has its fields in their order, those too that are zero.
func TestLinesOfOperations(t *testing.T) {
	for op := 1; op <= opCount; op++ {
		wantBoth(t, within(full(op)), "func 0 0\n"+fullLine(op))
		zeros := strings.Repeat(" 0", len(strings.TrimSuffix(told[op].letters, "G")))
		wantBoth(t, within(api.Instr{Op: op}, api.Instr{Op: api.OpYield}), "func 0 0\n"+told[op].word+zeros+"\nyield\n")
	}
	wantBoth(t, within(api.Instr{Op: api.OpCall, A: 5, B: 6, Args: []int{7}}, api.Instr{Op: api.OpCall, Args: make([]int, 100)}), "func 0 0\ncall 5 6 7\ncall 0 0"+strings.Repeat(" 0", 100)+"\n")
	wantText(t, within(api.Instr{Op: api.OpHalt, Args: []int{}}, api.Instr{Op: api.OpCall, Args: []int{}}), "func 0 0\nhalt\ncall 0 0\n")
}

// P20.1, P20.2: each kind's line has its numbers in their order, though the table is not sound.
func TestLinesOfKinds(t *testing.T) {
	for _, c := range []struct {
		one  api.Type
		line string
	}{
		{api.Type{Kind: api.KBool}, "type bool\n"},
		{api.Type{Kind: api.KInt}, "type int\n"},
		{api.Type{Kind: api.KFloat}, "type float\n"},
		{api.Type{Kind: api.KStr}, "type str\n"},
		{api.Type{Kind: api.KPtr}, "type ptr 0\n"},
		{api.Type{Kind: api.KPtr, Elem: 9}, "type ptr 9\n"},
		{api.Type{Kind: api.KMap, Key: 3, Elem: 200}, "type map 3 200\n"},
		{api.Type{Kind: api.KIface}, "type iface\n"},
		{api.Type{Kind: api.KStruct}, "type struct\n"},
		{api.Type{Kind: api.KStruct, Fields: []int{0, 5, 4}}, "type struct 0 5 4\n"},
		{api.Type{Kind: api.KStruct, Fields: make([]int, 20)}, "type struct" + strings.Repeat(" 0", 20) + "\n"},
		{api.Type{Kind: api.KArray}, "type array 0 0\n"},
		{api.Type{Kind: api.KArray, Elem: 7, Len: 17}, "type array 7 17\n"},
		{api.Type{Kind: api.KArray, Elem: 7, Len: limit}, "type array 7 2147483647\n"},
		{api.Type{Kind: api.KIter, Elem: 5}, "type iter 5\n"},
	} {
		wantBoth(t, api.Prog{Types: []api.Type{c.one}}, c.line)
		wantBoth(t, api.Prog{Types: []api.Type{c.one, {Kind: api.KFloat}}, Globals: []int{5}}, c.line+"type float\nglobal 5\n")
	}
}

// P20.1, P20.2: a string's text, of any bytes, and of more than a value may have.
func TestLinesOfStrings(t *testing.T) {
	for c := range 256 {
		s := string([]byte{byte(c)})
		wantBoth(t, api.Prog{Strs: []string{s, "x" + s + s + "y"}}, "str "+quote(s)+"\nstr "+quote("x"+s+s+"y")+"\n")
	}
	wantBoth(t, api.Prog{Strs: []string{"a'b\n", "", `\41`, " ", "  a  "}}, "str 'a\\27b\\0a'\nstr ''\nstr '\\5c41'\nstr ' '\nstr '  a  '\n")
	for _, n := range []int{api.MaxStr - 1, api.MaxStr, api.MaxStr + 1, 5 * api.MaxStr} {
		wantBoth(t, api.Prog{Strs: []string{strings.Repeat("x'", n/2), "y"}}, "str '"+strings.Repeat(`x\27`, n/2)+"'\nstr 'y'\n")
	}
}

// P20.1, P20.2: globals and functions, more and longer ones than sound programs have.
func TestLinesOfGlobalsAndFunctions(t *testing.T) {
	wantBoth(t, api.Prog{Globals: []int{0, 127, limit}}, "global 0\nglobal 127\nglobal 2147483647\n")
	wantBoth(t, api.Prog{Globals: make([]int, 300)}, strings.Repeat("global 0\n", 300))
	wantBoth(t, api.Prog{Funcs: []api.Func{{Params: 1, Locals: []int{2, 3}, Result: 4, Code: []api.Instr{{Op: api.OpHalt}, {Op: api.OpRet, A: 5}}}, {Params: 6, Result: 7}}},
		"func 1 4 2 3\nhalt\nret 5\nfunc 6 7\n")
	wantBoth(t, api.Prog{Funcs: make([]api.Func, 200)}, strings.Repeat("func 0 0\n", 200))
	wantBoth(t, api.Prog{Funcs: []api.Func{{Locals: make([]int, 200), Code: slices.Repeat([]api.Instr{{Op: api.OpHalt}}, 2000)}}},
		"func 0 0"+strings.Repeat(" 0", 200)+"\n"+strings.Repeat("halt\n", 2000))
	// The same words ahead of the first function and behind it.
	wantBoth(t, api.Prog{Strs: []string{"x"}, Globals: []int{1}, Funcs: []api.Func{{Code: []api.Instr{{Op: api.OpStr, A: 2, B: 3}, {Op: api.OpGlobal, A: 4, B: 5}}}}},
		"str 'x'\nglobal 1\nfunc 0 0\nstr 2 3\nglobal 4 5\n")
}

// P20.1, P20.2: numbers, up to 2147483647, and N up to 2^64 - 1.
func TestNumbers(t *testing.T) {
	for _, n := range []uint64{0, 1, 9, 10, 99, 100, 1000000000, limit - 1, limit, limit + 1, 1<<63 - 1, 1 << 63, math.MaxUint64} {
		for _, op := range []int{api.OpInt, api.OpFloat, api.OpBool} {
			wantBoth(t, within(api.Instr{Op: op, A: 3, N: n}), fmt.Sprintf("func 0 0\n%s 3 %d\n", told[op].word, n))
		}
		if n > limit {
			continue
		}
		a := int(n)
		wantBoth(t, within(api.Instr{Op: api.OpNext, A: a, B: a, C: a, D: a}), fmt.Sprintf("func 0 0\nnext %d %d %d %d\n", n, n, n, n))
		wantBoth(t, within(api.Instr{Op: api.OpCall, A: a, B: a, Args: []int{a, a}}), fmt.Sprintf("func 0 0\ncall %d %d %d %d\n", n, n, n, n))
		wantBoth(t, api.Prog{Types: []api.Type{{Kind: api.KMap, Key: a, Elem: a}}, Globals: []int{a}}, fmt.Sprintf("type map %d %d\nglobal %d\n", n, n, n))
		wantBoth(t, api.Prog{Funcs: []api.Func{{Params: a, Result: a, Locals: []int{a}}}}, fmt.Sprintf("func %d %d %d\n", n, n, n))
	}
}

// P20.1: what can be written, and what can't.
func TestWhatCanBeWritten(t *testing.T) {
	for _, edge := range progs.Edges(lettersOf) {
		if edge.Written {
			wantBoth(t, edge.Prog, textOf(edge.Prog))
		} else {
			wantNoText(t, "what can't be written", edge.Prog, api.ErrForm)
		}
		if t.Failed() {
			t.Fatalf("%v", edge.Prog)
		}
	}
}

// larger are programs that grow at one place by n of the same, each of so many bytes of text.
var larger = map[string]struct {
	each  int
	build func(n int) api.Prog
}{
	"types":   {len("type int\n"), func(n int) api.Prog { return api.Prog{Types: slices.Repeat([]api.Type{{Kind: api.KInt}}, n)} }},
	"fields":  {len(" 0"), func(n int) api.Prog { return api.Prog{Types: []api.Type{{Kind: api.KStruct, Fields: make([]int, n)}}} }},
	"letters": {len("x"), func(n int) api.Prog { return api.Prog{Strs: []string{strings.Repeat("x", n)}} }},
	"digits":  {len(`\5c`), func(n int) api.Prog { return api.Prog{Strs: []string{strings.Repeat(`\`, n)}} }},
	"strings": {len("str ''\n"), func(n int) api.Prog { return api.Prog{Strs: make([]string, n)} }},
	"globals": {len("global 0\n"), func(n int) api.Prog { return api.Prog{Globals: make([]int, n)} }},
	"heads":   {len("func 0 0\n"), func(n int) api.Prog { return api.Prog{Funcs: make([]api.Func, n)} }},
	"locals":  {len(" 0"), func(n int) api.Prog { return api.Prog{Funcs: []api.Func{{Locals: make([]int, n)}}} }},
	"code":    {len("if 0 0\n"), func(n int) api.Prog { return within(slices.Repeat([]api.Instr{{Op: api.OpIf}}, n)...) }},
	"args":    {len(" 0"), func(n int) api.Prog { return within(api.Instr{Op: api.OpCall, Args: make([]int, n)}) }},
	"numbers": {len("int 0 18446744073709551615\n"), func(n int) api.Prog {
		return within(slices.Repeat([]api.Instr{{Op: api.OpInt, N: math.MaxUint64}}, n)...)
	}},
}

// filled answers a program with a further string of as many letters as make its text as long as size.
func filled(p api.Prog, size int) api.Prog {
	p.Strs = append(p.Strs, "")
	p.Strs[len(p.Strs)-1] = strings.Repeat("x", size-len(textOf(p)))
	return p
}

// P20.1, P20.2: MaxText bytes, and one more.
func TestTextLarge(t *testing.T) {
	for name, grow := range larger {
		for _, part := range []int{1, 2, 10} {
			n := (api.MaxText - 100) / grow.each / part
			p := filled(grow.build(n), api.MaxText)
			s := textOf(p)
			if len(s) != api.MaxText {
				t.Fatalf("%s: %d bytes", name, len(s))
			}
			wantBoth(t, p, s)
			wantNoText(t, name+", one more", filled(grow.build(n), api.MaxText+1), api.ErrLarge)
			wantNoText(t, name+", more", grow.build(n*part+100), api.ErrLarge)
			wantNoText(t, name+", far more", grow.build(n*part*10), api.ErrLarge)
		}
	}
}

// P20.1: the longest strings, whose texts have as many bytes as the program as bytes has.
func TestLongestStrings(t *testing.T) {
	most := api.MaxText - len("str ''\n")
	wantBoth(t, api.Prog{Strs: []string{strings.Repeat("x", most)}}, "str '"+strings.Repeat("x", most)+"'\n")
	wantNoText(t, "one more letter", api.Prog{Strs: []string{strings.Repeat("x", most+1)}}, api.ErrLarge)
	wantNoText(t, "one byte of three", api.Prog{Strs: []string{strings.Repeat("x", most-1) + "'"}}, api.ErrLarge)
	wantNoText(t, "three bytes of each", api.Prog{Strs: []string{strings.Repeat("\x00", most)}}, api.ErrLarge)
	wantBoth(t, api.Prog{Strs: []string{strings.Repeat("x", most-10) + "'", ""}}, "str '"+strings.Repeat("x", most-10)+"\\27'\nstr ''\n")
	wantNoText(t, "another string", api.Prog{Strs: []string{strings.Repeat("x", most-6), ""}}, api.ErrLarge)
	wantNoText(t, "far more", api.Prog{Strs: slices.Repeat([]string{strings.Repeat("x", 1<<24)}, 100)}, api.ErrLarge)
}

// P20.1, R2: what can't be written is ErrForm, however long its text would be.
func TestFormAheadOfLarge(t *testing.T) {
	for name, grow := range larger {
		for _, n := range []int{api.MaxText/grow.each + 1, api.MaxText * 3} {
			p := grow.build(n)
			p.Funcs = append(p.Funcs, api.Func{Code: []api.Instr{{}}})
			wantNoText(t, name+" and no Op", p, api.ErrForm)
			p = grow.build(n)
			p.Types = append(p.Types, api.Type{Kind: api.KBool, Len: 1})
			wantNoText(t, name+" and a wrong type", p, api.ErrForm)
			p = grow.build(n)
			p.Globals = append(p.Globals, -1)
			wantNoText(t, name+" and a wrong global", p, api.ErrForm)
		}
	}
}
