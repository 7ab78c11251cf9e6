package verify

import (
	"slices"

	"heddle/api"
)

// Plain tells whether p is sound, and goes through maps in loops alone that do nothing but tell all their entries.
func Plain(p api.Prog) bool {
	_, _, e := Check(p)
	impure := func(f api.Func) bool { return !isPlain(f.Code) }
	return e == api.OK && !slices.ContainsFunc(p.Funcs, impure)
}

// Targets answers the numbers at which jumps of a function may go on, rising, each once.
func Targets(f api.Func) []int {
	var list []int
	for _, in := range f.Code {
		if to, ok := target(in); ok {
			list = append(list, to)
		}
	}
	slices.Sort(list)
	return slices.Compact(list)
}

// target answers where an instruction may go on but behind itself.
func target(in api.Instr) (to int, ok bool) {
	switch in.Op {
	case api.OpJump:
		return in.A, true
	case api.OpIf:
		return in.B, true
	case api.OpNext:
		return in.D, true
	}
	return 0, false
}

func isPlain(list []api.Instr) bool {
	for i, in := range list {
		if in.Op == api.OpNext && !(isLoop(list, i) && isShut(list, i)) {
			return false
		}
	}
	return true
}

// isLoop tells whether the OpNext at i stands in a loop that tells each key and each value.
func isLoop(list []api.Instr, i int) bool {
	if i < 1 || i+3 >= len(list) {
		return false
	}
	next, begin, key, value, back := list[i], list[i-1], list[i+1], list[i+2], list[i+3]
	return begin.Op == api.OpIter && begin.A == next.A &&
		key.Op == api.OpOut && key.A == next.B &&
		value.Op == api.OpOut && value.A == next.C && next.B != next.C &&
		back.Op == api.OpJump && back.A == i &&
		next.D == i+4
}

// isShut tells whether nothing goes on within the loop of the OpNext at i but the loop itself.
func isShut(list []api.Instr, i int) bool {
	for j, in := range list {
		to, ok := target(in)
		if ok && j != i+3 && to >= i && to <= i+3 {
			return false
		}
	}
	return true
}
