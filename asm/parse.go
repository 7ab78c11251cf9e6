package asm

import (
	"math"
	"strings"

	"heddle/api"
	"heddle/code"
	"heddle/lines"
	"heddle/numbers"
	"heddle/quoted"
	"heddle/tables"
)

// Parse answers the program whose text is s. Beside ErrText, line is the number of the first line at fault.
func Parse(s string) (p api.Prog, line int, e api.Errno) {
	if len(s) > api.MaxText {
		return api.Prog{}, 0, api.ErrLarge
	}
	r := &reader{kinds: numbered(kindWords), ops: numbered(opWords)}
	for text := range strings.Lines(s) {
		line++
		if !r.line(text) {
			return api.Prog{}, line, api.ErrText
		}
	}
	return r.prog, 0, api.OK
}

// reader keeps the program that was read up to here, which is one whose text ends here as well as one whose text goes on.
type reader struct {
	kinds, ops map[string]int
	prog       api.Prog
}

// line reads one more line, and tells whether it may stand there.
func (r *reader) line(text string) bool {
	words := lines.Over(text)
	first := words.Word()
	switch {
	case first == funcWord:
		r.prog.Funcs = append(r.prog.Funcs, readHead(words))
	case len(r.prog.Funcs) > 0:
		in, ok := readInstr(r.ops[first], words)
		if !ok {
			return false
		}
		last := &r.prog.Funcs[len(r.prog.Funcs)-1]
		last.Code = append(last.Code, in)
	case !r.outside(first, words):
		return false
	}
	return words.End()
}

// outside reads a line ahead of the functions: types come first, and then strings, and then globals.
func (r *reader) outside(first string, words *lines.Reader) bool {
	p := &r.prog
	switch {
	case first == typeWord && len(p.Strs)+len(p.Globals) == 0:
		one, ok := tables.Of(r.kinds[words.Word()], readList(words))
		p.Types = append(p.Types, one)
		return ok
	case first == strWord && len(p.Globals) == 0:
		s, ok := quoted.Read(words.Rest())
		p.Strs = append(p.Strs, s)
		return ok
	case first == globalWord:
		p.Globals = append(p.Globals, readNumber(words))
		return true
	}
	return false
}

// readHead reads what stands behind one another in its literal in that order.
func readHead(words *lines.Reader) api.Func {
	return api.Func{
		Params: readNumber(words),
		Result: readNumber(words),
		Locals: readList(words),
	}
}

// readInstr reads the fields of an operation. It is not ok if there is no such operation.
func readInstr(op int, words *lines.Reader) (in api.Instr, ok bool) {
	letters, e := code.Fields(op)
	in.Op = op
	for _, letter := range letters {
		switch letter {
		case longField:
			in.N = words.Number(math.MaxUint64)
		case argsField:
			in.Args = readList(words)
		default:
			*numberOf(&in, letter) = readNumber(words)
		}
	}
	return in, e == api.OK
}

func readNumber(words *lines.Reader) int {
	return int(words.Number(numbers.Limit))
}

func readList(words *lines.Reader) []int {
	return lines.List[int](words, numbers.Limit)
}
