package asm

import (
	"strconv"
	"strings"

	"heddle/api"
	"heddle/code"
	"heddle/quoted"
	"heddle/tables"
)

// Text answers the text of a program that can be written.
func Text(p api.Prog) (string, api.Errno) {
	// Texts and bytes have the same limit, and what has more bytes than that has no shorter a text: none is built of a program that is far too large.
	if _, e := code.Encode(p); e != api.OK {
		return "", e
	}
	w := &writer{}
	w.program(p)
	if len(w.text) > api.MaxText {
		return "", api.ErrLarge
	}
	return string(w.text), api.OK
}

// writer keeps words, each with a blank behind it, or with a byte 10 if it is the last of its line.
type writer struct {
	text []byte
}

func (w *writer) program(p api.Prog) {
	kinds, ops := strings.Fields(kindWords), strings.Fields(opWords)
	for _, one := range p.Types {
		w.words(typeWord, kinds[one.Kind-1])
		w.numbers(tables.Numbers(one)...)
		w.end()
	}
	for _, s := range p.Strs {
		w.words(strWord)
		w.text = append(quoted.Append(w.text, s), ' ')
		w.end()
	}
	for _, t := range p.Globals {
		w.words(globalWord)
		w.numbers(t)
		w.end()
	}
	for _, f := range p.Funcs {
		w.words(funcWord)
		w.numbers(f.Params, f.Result)
		w.numbers(f.Locals...)
		w.end()
		for _, in := range f.Code {
			w.words(ops[in.Op-1])
			w.fields(in)
			w.end()
		}
	}
}

func (w *writer) fields(in api.Instr) {
	letters, _ := code.Fields(in.Op)
	for _, letter := range letters {
		switch letter {
		case longField:
			w.words(strconv.FormatUint(in.N, 10))
		case argsField:
			w.numbers(in.Args...)
		default:
			w.numbers(*numberOf(&in, letter))
		}
	}
}

func (w *writer) words(list ...string) {
	for _, word := range list {
		w.text = append(append(w.text, word...), ' ')
	}
}

func (w *writer) numbers(list ...int) {
	for _, n := range list {
		w.words(strconv.Itoa(n))
	}
}

// end ends a line, which has a word.
func (w *writer) end() {
	w.text[len(w.text)-1] = '\n'
}
