package progs

import "heddle/api"

// Apart tells whether no two lists of a program share memory, spare room included. It writes over what they have.
func Apart(p api.Prog) bool {
	written := places(p)
	for i, place := range written {
		*place = i
	}
	// Where two lists share a place, it was written to twice.
	for i, place := range written {
		if *place != i {
			return false
		}
	}
	return true
}

// places answers one number of each entry of a program's lists, spare room included. The list of strings is left out: no other one can share with it.
func places(p api.Prog) (list []*int) {
	for _, one := range p.Types {
		list = appendPlaces(list, one.Fields, itself)
	}
	for _, f := range p.Funcs {
		for _, in := range f.Code {
			list = appendPlaces(list, in.Args, itself)
		}
		list = appendPlaces(list, f.Locals, itself)
		list = appendPlaces(list, f.Code, func(in *api.Instr) *int { return &in.Op })
	}
	list = appendPlaces(list, p.Globals, itself)
	list = appendPlaces(list, p.Types, func(one *api.Type) *int { return &one.Kind })
	return appendPlaces(list, p.Funcs, func(f *api.Func) *int { return &f.Params })
}

func itself(n *int) *int {
	return n
}

func appendPlaces[T any](list []*int, entries []T, place func(one *T) *int) []*int {
	entries = all(entries)
	for i := range entries {
		list = append(list, place(&entries[i]))
	}
	return list
}
