package verify

import (
	"heddle/api"
)

// function asks what has to be so of a function, in a program that is sound outside its functions.
type function struct {
	program
	api.Func
}

// check answers the place of the first fault: 0 for the head, and for an instruction its number and one.
func (f *function) check() (at int, ok bool) {
	if !all(f.paramsFit, f.localsAreSound, f.resultIsSound, f.codeEnds) {
		return 0, false
	}
	asks := f.asks()
	for i, in := range f.Code {
		if isSo := asks[in.Op]; !isSo(in) {
			return i + 1, false
		}
	}
	return 0, true
}

func (f *function) paramsFit() bool {
	return f.Params <= len(f.Locals) && len(f.Locals) <= api.MaxLocals
}

func (f *function) localsAreSound() bool {
	for _, t := range f.Locals {
		if !f.isType(t) {
			return false
		}
	}
	return f.areNot(api.KIter, f.Locals[:f.Params]...)
}

func (f *function) resultIsSound() bool {
	return f.Result == 0 || f.areNot(api.KIter, f.Result-1)
}

// codeEnds tells whether nothing goes on behind the last instruction.
func (f *function) codeEnds() bool {
	if len(f.Code) < 1 || len(f.Code) > api.MaxCode {
		return false
	}
	switch f.Code[len(f.Code)-1].Op {
	case api.OpJump, api.OpRet, api.OpHalt:
		return true
	}
	return false
}

// local answers the type of the local with that number.
func (f *function) local(number int) int {
	if number < len(f.Locals) {
		return f.Locals[number]
	}
	return none
}

// are tells whether the locals with those numbers are all of a kind.
func (f *function) are(kind int, locals ...int) bool {
	for _, number := range locals {
		if f.kind(f.local(number)) != kind {
			return false
		}
	}
	return true
}

// is tells whether a local has just that type.
func (f *function) is(t, local int) bool {
	return t != none && f.local(local) == t
}

// isTaken tells whether field is a local and one, and result the type of that local and one.
func (f *function) isTaken(field, result int) bool {
	return field != 0 && result != 0 && f.is(result-1, field-1)
}

func (f *function) isPlace(number int) bool {
	return number < len(f.Code)
}
