package code

import (
	"heddle/api"
	"heddle/numbers"
	"heddle/tables"
)

// Encode answers the bytes of a program that can be written.
func Encode(p api.Prog) ([]byte, api.Errno) {
	if !canWrite(p) {
		return nil, api.ErrForm
	}
	w := &writer{}
	w.program(p)
	if w.full() {
		return nil, api.ErrLarge
	}
	return w.bytes, api.OK
}

func canWrite(p api.Prog) bool {
	return every(p.Types, tables.CanWrite) && numbers.Fit(p.Globals...) && every(p.Funcs, canWriteFunc)
}

func canWriteFunc(f api.Func) bool {
	return numbers.Fit(f.Params, f.Result) && numbers.Fit(f.Locals...) && every(f.Code, canWriteInstr)
}

func canWriteInstr(in api.Instr) bool {
	if !isOp(in.Op) || !numbers.Fit(in.A, in.B, in.C, in.D) || !numbers.Fit(in.Args...) {
		return false
	}
	for field := range fieldCount {
		if !hasField(in.Op, field) && !isZero(in, field) {
			return false
		}
	}
	return true
}

func isZero(in api.Instr, field int) bool {
	switch field {
	case fieldN:
		return in.N == 0
	case fieldArgs:
		return len(in.Args) == 0
	}
	return *numberOf(&in, field) == 0
}

func every[T any](list []T, ok func(one T) bool) bool {
	for _, one := range list {
		if !ok(one) {
			return false
		}
	}
	return true
}

// writer keeps bytes one behind the other. Once they are more than a program may have it takes no more, so that one far too large asks for no more room.
type writer struct {
	bytes []byte
}

func (w *writer) full() bool {
	return len(w.bytes) > api.MaxBytes
}

func (w *writer) long(n uint64) {
	if !w.full() {
		w.bytes = numbers.Append(w.bytes, n)
	}
}

func (w *writer) number(n int) {
	w.long(uint64(n))
}

func (w *writer) text(s string) {
	w.number(len(s))
	if !w.full() {
		// One byte too many is enough to be full.
		room := api.MaxBytes + 1 - len(w.bytes)
		w.bytes = append(w.bytes, s[:min(len(s), room)]...)
	}
}

func (w *writer) program(p api.Prog) {
	tables.Write(p.Types, w.number)
	writeList(w, p.Strs, w.text)
	writeList(w, p.Globals, w.number)
	writeList(w, p.Funcs, w.function)
}

func (w *writer) function(f api.Func) {
	w.number(f.Params)
	writeList(w, f.Locals, w.number)
	w.number(f.Result)
	writeList(w, f.Code, w.instr)
}

func (w *writer) instr(in api.Instr) {
	w.number(in.Op)
	for field := range fieldCount {
		switch {
		case !hasField(in.Op, field):
		case field == fieldN:
			w.long(in.N)
		case field == fieldArgs:
			writeList(w, in.Args, w.number)
		default:
			w.number(*numberOf(&in, field))
		}
	}
}

// writeList writes how many items there are, and each of them.
func writeList[T any](w *writer, list []T, write func(one T)) {
	w.number(len(list))
	for _, one := range list {
		write(one)
	}
}
