// Package progs is for the tests of the layers that are handed programs. It is no layer: it copies programs, draws them, tells where their numbers stand, which of them can be written and whether their lists are apart, and gives these spare room, into which a call might look or write by mistake.
package progs

import "heddle/api"

// Copy answers a program in memory of its own, whose empty lists are nil.
func Copy(p api.Prog) api.Prog {
	p.Types, p.Strs, p.Globals, p.Funcs = fresh(p.Types), fresh(p.Strs), fresh(p.Globals), fresh(p.Funcs)
	for i := range p.Types {
		p.Types[i].Fields = fresh(p.Types[i].Fields)
	}
	for i := range p.Funcs {
		f := &p.Funcs[i]
		f.Locals, f.Code = fresh(f.Locals), fresh(f.Code)
		for j := range f.Code {
			f.Code[j].Args = fresh(f.Code[j].Args)
		}
	}
	return p
}

func fresh[T any](list []T) []T {
	return append([]T(nil), list...)
}

// Numbers answers where the numbers of a program stand, all but the long ones and the lists' lengths.
func Numbers(p *api.Prog) (list []*int) {
	for i := range p.Types {
		one := &p.Types[i]
		list = append(list, &one.Kind, &one.Elem, &one.Key, &one.Len)
		list = appendNumbers(list, one.Fields)
	}
	list = appendNumbers(list, p.Globals)
	for i := range p.Funcs {
		f := &p.Funcs[i]
		list = append(list, &f.Params, &f.Result)
		list = appendNumbers(list, f.Locals)
		for j := range f.Code {
			in := &f.Code[j]
			list = append(list, &in.Op, &in.A, &in.B, &in.C, &in.D)
			list = appendNumbers(list, in.Args)
		}
	}
	return list
}

func appendNumbers(list []*int, numbers []int) []*int {
	for i := range numbers {
		list = append(list, &numbers[i])
	}
	return list
}

// Roomy answers a copy of a program, all of whose lists have spare room with something in it.
func Roomy(p api.Prog) api.Prog {
	p = Copy(p)
	for i := range p.Types {
		p.Types[i].Fields = withRoom(p.Types[i].Fields, 91)
	}
	for i := range p.Funcs {
		f := &p.Funcs[i]
		for j := range f.Code {
			f.Code[j].Args = withRoom(f.Code[j].Args, 92)
		}
		f.Code, f.Locals = withRoom(f.Code, api.Instr{Op: 93}), withRoom(f.Locals, 94)
	}
	p.Types, p.Strs = withRoom(p.Types, api.Type{Kind: 95}), withRoom(p.Strs, "spare")
	p.Globals, p.Funcs = withRoom(p.Globals, 96), withRoom(p.Funcs, api.Func{Params: 97})
	return p
}

func withRoom[T any](list []T, spare T) []T {
	return append(fresh(list), spare, spare, spare)[:len(list)]
}

// Whole answers a copy of a program that has the spare room of its lists in them, so that what is written there is seen too.
func Whole(p api.Prog) api.Prog {
	p.Types, p.Funcs = fresh(all(p.Types)), fresh(all(p.Funcs))
	p.Strs, p.Globals = all(p.Strs), all(p.Globals)
	for i := range p.Types {
		p.Types[i].Fields = all(p.Types[i].Fields)
	}
	for i := range p.Funcs {
		f := &p.Funcs[i]
		f.Locals, f.Code = all(f.Locals), fresh(all(f.Code))
		for j := range f.Code {
			f.Code[j].Args = all(f.Code[j].Args)
		}
	}
	return Copy(p)
}

// all answers a list with its spare room.
func all[T any](list []T) []T {
	return list[:cap(list)]
}
