package progs

import (
	"math"
	"strings"

	"heddle/api"
	"heddle/numbers"
)

// Letters tells the letters of an operation's fields, as a test has them that does not ask the layer that tells them.
type Letters func(op int) string

// Sample answers a program with something of everything, each operation among it. It is not sound.
func Sample(letters Letters) api.Prog {
	var every []api.Instr
	for op := api.OpInt; op <= api.OpYield; op++ {
		every = append(every, Full(op, letters(op)))
	}
	const most = numbers.Limit
	return api.Prog{
		Types: []api.Type{
			{Kind: api.KBool}, {Kind: api.KInt}, {Kind: api.KFloat}, {Kind: api.KStr}, {Kind: api.KPtr, Elem: 200},
			{Kind: api.KMap, Key: 3, Elem: 1}, {Kind: api.KIface}, {Kind: api.KStruct, Fields: []int{1, 300, 3}},
			{Kind: api.KArray, Elem: 1, Len: 5}, {Kind: api.KIter, Elem: 5}, {Kind: api.KStruct},
		},
		Strs:    []string{"", "a b'", "\x00\xff\x80"},
		Globals: []int{3, 300, most},
		Funcs: []api.Func{
			{Params: 2, Locals: []int{1, 2, 3000}, Result: 4, Code: every},
			{},
			{Params: most, Result: most, Code: []api.Instr{{Op: api.OpInt, A: most, N: math.MaxUint64}, {Op: api.OpCall}, {Op: api.OpHalt}}},
			{Locals: []int{0}},
		},
	}
}

// Edge is a program with one thing that decides whether it can be written.
type Edge struct {
	Prog    api.Prog
	Written bool
}

// Edges answers programs that can be written and such that can't, as chapter 18 says: for a number, a field that is not named, an Op or a Kind.
func Edges(letters Letters) (list []Edge) {
	list = append(list, wrongNumbers(Sample(letters))...)
	for op := api.OpInt; op <= api.OpYield; op++ {
		for _, letter := range "ABCDNG" {
			for _, n := range []int{1, numbers.Limit} {
				named := strings.ContainsRune(letters(op), letter)
				list = append(list, Edge{of(WithField(api.Instr{Op: op}, letter, n)), named})
			}
		}
	}
	for _, op := range []int{math.MinInt, -1, 0, api.OpYield + 1, 128 + 5, 256 + 5, numbers.Limit, 1<<32 + 5, math.MaxInt} {
		list = append(list, Edge{of(api.Instr{Op: op}), false})
	}
	return append(list, types()...)
}

// of answers a program of one instruction between two others.
func of(in api.Instr) api.Prog {
	return api.Prog{Funcs: []api.Func{{}, {Code: []api.Instr{{Op: api.OpYield}, in, {Op: api.OpHalt}}}}}
}

// wrongNumbers answers what becomes of a program with one of its numbers below 0 or beyond the limit, wherever it stands.
func wrongNumbers(p api.Prog) (list []Edge) {
	for i := range Numbers(&p) {
		for _, wrong := range []int{math.MinInt, -numbers.Limit - 1, -1, numbers.Limit + 1, 1 << 32, math.MaxInt} {
			q := Copy(p)
			*Numbers(&q)[i] = wrong
			list = append(list, Edge{q, false})
		}
	}
	return list
}

// types answers programs with a type that has a part, or that is of no kind.
func types() (list []Edge) {
	named := [...]string{api.KPtr: "E", api.KMap: "KE", api.KStruct: "F", api.KArray: "EL", api.KIter: "E"}
	for kind, letters := range named {
		for _, c := range []struct {
			letter string
			one    api.Type
		}{{"E", api.Type{Elem: 1}}, {"K", api.Type{Key: 1}}, {"L", api.Type{Len: 1}}, {"F", api.Type{Fields: []int{0}}}} {
			c.one.Kind = kind
			list = append(list, Edge{api.Prog{Types: []api.Type{{Kind: api.KInt}, c.one}}, strings.Contains(letters, c.letter)})
		}
	}
	for _, kind := range []int{math.MinInt, -1, 0, api.KIter + 1, 256 + 5, numbers.Limit, 1<<32 + 5, math.MaxInt} {
		list = append(list, Edge{api.Prog{Types: []api.Type{{Kind: kind}}}, false})
	}
	return list
}
