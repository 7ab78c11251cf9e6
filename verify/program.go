package verify

import (
	"slices"

	"heddle/api"
	"heddle/code"
	"heddle/types"
)

// program asks what has to be so of a program outside its functions.
type program struct {
	api.Prog
}

func (p *program) soundOutside() bool {
	return all(p.canBeWritten, p.typesAreSound, p.stringsFit, p.globalsAreSound, p.hasFunctions, p.beginsWithout)
}

// canBeWritten also tells that no number is below 0, on which all that is asked later leans.
func (p *program) canBeWritten() bool {
	// A program may be sound and still have more bytes than can be answered.
	_, e := code.Encode(p.Prog)
	return e != api.ErrForm
}

func (p *program) typesAreSound() bool {
	return types.Check(p.Types) == api.OK
}

func (p *program) stringsFit() bool {
	tooLong := func(s string) bool { return len(s) > api.MaxStr }
	return len(p.Strs) <= api.MaxFuncs && !slices.ContainsFunc(p.Strs, tooLong)
}

func (p *program) globalsAreSound() bool {
	return len(p.Globals) <= api.MaxFuncs && p.areNot(api.KIter, p.Globals...)
}

func (p *program) hasFunctions() bool {
	return len(p.Funcs) >= 1 && len(p.Funcs) <= api.MaxFuncs
}

// beginsWithout tells whether the function with which the program begins has no parameters, since nobody hands it any.
func (p *program) beginsWithout() bool {
	return p.Funcs[0].Params == 0
}

// none stands for a type where there is none. It is the same as no type.
const none = -1

func (p *program) isType(t int) bool {
	return t != none && t < len(p.Types)
}

// kind answers the kind of type t, and no kind where there is no such type.
func (p *program) kind(t int) int {
	if !p.isType(t) {
		return 0
	}
	return p.Types[t].Kind
}

// areNot tells whether all that is listed are types, and of another kind.
func (p *program) areNot(kind int, list ...int) bool {
	for _, t := range list {
		if !p.isType(t) || p.kind(t) == kind {
			return false
		}
	}
	return true
}

// canBeBoxed tells whether an interface may hold values of t.
func (p *program) canBeBoxed(t int) bool {
	return p.areNot(api.KIface, t) && p.areNot(api.KIter, t)
}

func (p *program) canBeCompared(t int) bool {
	compared, _ := types.Comparable(p.Types, t)
	return compared
}

// elem answers the Elem of a type of that kind.
func (p *program) elem(kind, t int) int {
	if p.kind(t) != kind {
		return none
	}
	return p.Types[t].Elem
}

// key answers the Key of a map.
func (p *program) key(t int) int {
	if p.kind(t) != api.KMap {
		return none
	}
	return p.Types[t].Key
}

// field answers the type of a struct's field.
func (p *program) field(t, number int) int {
	if p.kind(t) != api.KStruct || number >= len(p.Types[t].Fields) {
		return none
	}
	return p.Types[t].Fields[number]
}
