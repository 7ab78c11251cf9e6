package asm_test

import (
	"fmt"
	"reflect"
	"regexp"
	"strconv"
	"strings"
	"testing"

	"heddle/api"
	"heddle/asm"
	"heddle/progs"
)

const (
	limit    = 2147483647
	opCount  = 41
	kindsEnd = 10
)

// told has the operations' words, with the letters of their fields, as the chapters have them.
var told = [opCount + 1]struct{ word, letters string }{
	api.OpInt:       {"int", "AN"},
	api.OpFloat:     {"float", "AN"},
	api.OpBool:      {"bool", "AN"},
	api.OpStr:       {"str", "AB"},
	api.OpMove:      {"move", "AB"},
	api.OpArith:     {"arith", "ABCD"},
	api.OpEq:        {"eq", "ABC"},
	api.OpNot:       {"not", "AB"},
	api.OpConcat:    {"concat", "ABC"},
	api.OpSlice:     {"slice", "ABCD"},
	api.OpLen:       {"len", "AB"},
	api.OpByte:      {"byte", "ABC"},
	api.OpNew:       {"new", "A"},
	api.OpLoad:      {"load", "AB"},
	api.OpStore:     {"store", "AB"},
	api.OpGetField:  {"getfield", "ABC"},
	api.OpSetField:  {"setfield", "ABC"},
	api.OpGetElem:   {"getelem", "ABC"},
	api.OpSetElem:   {"setelem", "ABC"},
	api.OpPart:      {"part", "ABC"},
	api.OpPut:       {"put", "ABC"},
	api.OpBox:       {"box", "AB"},
	api.OpUnbox:     {"unbox", "AB"},
	api.OpIs:        {"is", "ABC"},
	api.OpMake:      {"make", "A"},
	api.OpGet:       {"get", "ABCD"},
	api.OpSet:       {"set", "ABC"},
	api.OpDelete:    {"delete", "AB"},
	api.OpClear:     {"clear", "A"},
	api.OpCount:     {"count", "AB"},
	api.OpIter:      {"iter", "AB"},
	api.OpNext:      {"next", "ABCD"},
	api.OpJump:      {"jump", "A"},
	api.OpIf:        {"if", "AB"},
	api.OpCall:      {"call", "ABG"},
	api.OpRet:       {"ret", "A"},
	api.OpGlobal:    {"global", "AB"},
	api.OpSetGlobal: {"setglobal", "AB"},
	api.OpOut:       {"out", "A"},
	api.OpHalt:      {"halt", ""},
	api.OpYield:     {"yield", ""},
}

// kinds are the words of the types' kinds.
var kinds = [kindsEnd + 1]string{
	api.KBool: "bool", api.KInt: "int", api.KFloat: "float", api.KStr: "str", api.KPtr: "ptr",
	api.KMap: "map", api.KIface: "iface", api.KStruct: "struct", api.KArray: "array", api.KIter: "iter",
}

func lettersOf(op int) string {
	return told[op].letters
}

// full answers an instruction all of whose fields are there.
func full(op int) api.Instr {
	return progs.Full(op, told[op].letters)
}

// fullLine answers the line of full(op).
func fullLine(op int) string {
	tail := map[string]string{"": "", "A": " 1", "AB": " 1 2", "ABC": " 1 2 3", "ABCD": " 1 2 3 4", "AN": " 1 300", "ABG": " 1 2 6 7"}
	return told[op].word + tail[told[op].letters] + "\n"
}

// within answers a program of one function with the instructions handed in.
func within(list ...api.Instr) api.Prog {
	return api.Prog{Funcs: []api.Func{{Code: list}}}
}

// sample answers a program with something of everything, which is not sound.
func sample() api.Prog {
	return progs.Sample(lettersOf)
}

// sampleText answers the sample's text, written out.
func sampleText() string {
	s := "type bool\ntype int\ntype float\ntype str\ntype ptr 200\ntype map 3 1\ntype iface\ntype struct 1 300 3\ntype array 1 5\ntype iter 5\ntype struct\n" +
		"str ''\nstr 'a b\\27'\nstr '\\00\\ff\\80'\n" +
		"global 3\nglobal 300\nglobal 2147483647\n" +
		"func 2 4 1 2 3000\n"
	for op := 1; op <= opCount; op++ {
		s += fullLine(op)
	}
	return s + "func 0 0\nfunc 2147483647 2147483647\nint 2147483647 18446744073709551615\ncall 0 0\nhalt\nfunc 0 0 0\n"
}

// alike holds programs against each other by the language's own means.
func alike(p, q api.Prog) bool {
	return reflect.DeepEqual(progs.Copy(p), progs.Copy(q))
}

func wantText(t *testing.T, p api.Prog, want string) {
	t.Helper()
	if s, e := asm.Text(p); s != want || e != api.OK {
		t.Errorf("Text(%v) = %q, %d, want %q", p, s, e, want)
	}
}

func wantNoText(t *testing.T, what string, p api.Prog, want api.Errno) {
	t.Helper()
	if s, e := asm.Text(p); s != "" || e != want {
		t.Errorf("Text, %s: %d bytes, %d, want none, %d", what, len(s), e, want)
	}
}

func wantParse(t *testing.T, s string, want api.Prog) {
	t.Helper()
	if p, line, e := asm.Parse(s); !alike(p, want) || line != 0 || e != api.OK {
		t.Errorf("Parse(%q) = %v, %d, %d, want %v", s, p, line, e, want)
	}
}

func wantFault(t *testing.T, s string, line int, want api.Errno) {
	t.Helper()
	p, gotLine, e := asm.Parse(s)
	if !reflect.DeepEqual(p, api.Prog{}) || gotLine != line || e != want {
		t.Errorf("Parse(%q) = %v, %d, %d, want nothing, %d, %d", s[:min(len(s), 300)], p, gotLine, e, line, want)
	}
}

// wantBoth looks for a program's text, there and back.
func wantBoth(t *testing.T, p api.Prog, s string) {
	t.Helper()
	wantText(t, p, s)
	wantParse(t, s, p)
}

// textOf answers what the text of a program that can be written has to be.
func textOf(p api.Prog) string {
	var b strings.Builder
	line := func(words ...any) { fmt.Fprintln(&b, words...) }
	for _, one := range p.Types {
		words := []any{"type", kinds[one.Kind]}
		switch one.Kind {
		case api.KPtr, api.KIter:
			words = append(words, one.Elem)
		case api.KMap:
			words = append(words, one.Key, one.Elem)
		case api.KArray:
			words = append(words, one.Elem, one.Len)
		}
		line(append(words, anys(one.Fields)...)...)
	}
	for _, s := range p.Strs {
		line("str", quote(s))
	}
	for _, t := range p.Globals {
		line("global", t)
	}
	for _, f := range p.Funcs {
		line(append([]any{"func", f.Params, f.Result}, anys(f.Locals)...)...)
		for _, in := range f.Code {
			words := []any{told[in.Op].word}
			for _, letter := range told[in.Op].letters {
				switch letter {
				case 'G':
					words = append(words, anys(in.Args)...)
				default:
					words = append(words, map[rune]uint64{'A': uint64(in.A), 'B': uint64(in.B), 'C': uint64(in.C), 'D': uint64(in.D), 'N': in.N}[letter])
				}
			}
			line(words...)
		}
	}
	return b.String()
}

func anys(list []int) (all []any) {
	for _, n := range list {
		all = append(all, n)
	}
	return all
}

func quote(s string) string {
	b := []byte{'\''}
	for _, c := range []byte(s) {
		if c < 0x20 || c > 0x7e || c == '\'' || c == '\\' {
			b = fmt.Appendf(b, "\\%02x", c)
		} else {
			b = append(b, c)
		}
	}
	return string(append(b, '\''))
}

const (
	number   = `(?:0|[1-9][0-9]{0,19})`
	byteText = `(?:[ !-&(-\[\]-~]|\\(?:[01][0-9a-f]|27|5c|7f|[89a-f][0-9a-f]))`
)

// The lines that there are, each with the sections in which it may stand.
var shapes = []struct {
	shape, sections string
	to              byte
}{
	{`type (?:bool|int|float|str|iface|ptr N|iter N|map N N|array N N|struct(?: N)*)`, "t", 't'},
	{`str '` + byteText + `*'`, "ts", 's'},
	{`global N`, "tsg", 'g'},
	{`func N N(?: N)*`, "tsgf", 'f'},
	{`(?:int|float|bool) N L`, "f", 'f'},
	{`(?:str|move|not|len|load|store|box|unbox|delete|count|iter|if|global|setglobal) N N`, "f", 'f'},
	{`(?:eq|concat|byte|getfield|setfield|getelem|setelem|part|put|is|set) N N N`, "f", 'f'},
	{`(?:arith|slice|get|next) N N N N`, "f", 'f'},
	{`(?:new|make|clear|jump|ret|out) N`, "f", 'f'},
	{`call N N(?: N)*`, "f", 'f'},
	{`(?:halt|yield)`, "f", 'f'},
}

// forms are the shapes as whole lines. The letters N and L stand for numbers: no word of a line has them.
var forms = func() (list []*regexp.Regexp) {
	for _, row := range shapes {
		shape := strings.NewReplacer("N", number, "L", number).Replace(row.shape)
		list = append(list, regexp.MustCompile(`\A`+shape+"\n"+`\z`))
	}
	return list
}()

// fits tells whether all numbers of a line are within their limits.
func fits(line string) bool {
	words := strings.Fields(line)
	for i, word := range words {
		n, err := strconv.ParseUint(word, 10, 64)
		if strings.HasPrefix(line, "str '") || word[0] > '9' {
			continue
		}
		long := i == 2 && (words[0] == "int" || words[0] == "float" || words[0] == "bool")
		if err != nil || n > limit && !long {
			return false
		}
	}
	return true
}

// faultOf answers the first line of s that is at fault, or 0, by the shapes of the lines alone.
func faultOf(s string) (line int) {
	section := byte('t')
lines:
	for _, text := range strings.SplitAfter(s, "\n") {
		if text == "" {
			return 0
		}
		line++
		for i, row := range shapes {
			if strings.IndexByte(row.sections, section) >= 0 && forms[i].MatchString(text) && fits(text) {
				section = row.to
				continue lines
			}
		}
		return line
	}
	return 0
}

// hold holds Parse against the model, and what it answers against the text that it was handed.
func hold(t *testing.T, s string) (e api.Errno) {
	t.Helper()
	if line := faultOf(s); line > 0 {
		wantFault(t, s, line, api.ErrText)
		return api.ErrText
	}
	p, line, e := asm.Parse(s)
	if line != 0 || e != api.OK || textOf(p) != s {
		t.Errorf("Parse(%q) = %v, %d, %d", s, p, line, e)
	}
	return e
}
