package code

import (
	"slices"

	"heddle/api"
)

// Same tells whether two programs are the same in all fields. They need not be such as can be written.
func Same(p, q api.Prog) bool {
	return slices.EqualFunc(p.Types, q.Types, sameType) &&
		slices.Equal(p.Strs, q.Strs) &&
		slices.Equal(p.Globals, q.Globals) &&
		slices.EqualFunc(p.Funcs, q.Funcs, sameFunc)
}

func sameType(one, two api.Type) bool {
	return one.Kind == two.Kind && one.Elem == two.Elem && one.Key == two.Key && one.Len == two.Len &&
		slices.Equal(one.Fields, two.Fields)
}

func sameFunc(f, g api.Func) bool {
	return f.Params == g.Params && f.Result == g.Result &&
		slices.Equal(f.Locals, g.Locals) &&
		slices.EqualFunc(f.Code, g.Code, sameInstr)
}

func sameInstr(in, other api.Instr) bool {
	for field := fieldA; field <= fieldD; field++ {
		if *numberOf(&in, field) != *numberOf(&other, field) {
			return false
		}
	}
	return in.Op == other.Op && in.N == other.N && slices.Equal(in.Args, other.Args)
}
