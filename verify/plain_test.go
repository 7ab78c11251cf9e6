package verify_test

import (
	"slices"
	"testing"

	"heddle/api"
	"heddle/verify"
)

// loop answers the instructions of a loop that tells a map's entries, of which the first has that number.
func loop(first, m, iter, key, value int) []api.Instr {
	return []api.Instr{
		{Op: api.OpIter, A: iter, B: m},
		{Op: api.OpNext, A: iter, B: key, C: value, D: first + 5},
		{Op: api.OpOut, A: key},
		{Op: api.OpOut, A: value},
		{Op: api.OpJump, A: first + 1},
	}
}

// P19.2: the chapter's second example.
func TestSecondExample(t *testing.T) {
	p := example([]int{1, 2, 0, 0}, slices.Concat([]api.Instr{{Op: api.OpMake}}, loop(1, 0, 1, 2, 3), []api.Instr{halt})...)
	wantPlain(t, "as it is", p, true)
	p.Funcs[0].Code[4].A = 2
	wantPlain(t, "with OpOut 2 twice", p, false)
}

// The locals of the programs with loops.
const (
	aMap = iota
	anIter
	aKey
	aValue
	aFlag
	another // iterator
	anInt   // of the key's and the value's type
	aText
)

// loops answers a program of those locals, whose maps are from Int to Int.
func loops(list ...api.Instr) api.Prog {
	return api.Prog{
		Types: []api.Type{{Kind: api.KInt}, {Kind: api.KMap}, {Kind: api.KIter, Elem: 1}, {Kind: api.KBool}, {Kind: api.KStr}},
		Funcs: []api.Func{{Locals: []int{1, 2, 0, 0, 3, 2, 0, 4}, Code: list}},
	}
}

func oneLoop(first int) []api.Instr {
	return loop(first, aMap, anIter, aKey, aValue)
}

// P19.2: programs without loops over maps are plain, if they are sound, however else they go on.
func TestPlainWithoutNext(t *testing.T) {
	wantPlain(t, "nothing but a halt", loops(halt), true)
	wantPlain(t, "iterators that nobody asks", loops(api.Instr{Op: api.OpIter, A: anIter, B: aMap}, api.Instr{Op: api.OpIf, A: aFlag}, api.Instr{Op: api.OpJump}), true)
	wantFault(t, "not sound", loops(api.Instr{Op: api.OpYield}), 1, 0)
	wantFault(t, "not sound, outside", api.Prog{}, 0, 0)
	wantPlain(t, "an operation of each kind", full(), true)
}

// P19.2: what stands in a loop, piece by piece.
func TestPlainPieces(t *testing.T) {
	for what, change := range map[string]func(list []api.Instr){
		"another iterator begins":      func(list []api.Instr) { list[1].A = another },
		"nothing begins":               func(list []api.Instr) { list[1] = api.Instr{Op: api.OpYield} },
		"the other is asked":           func(list []api.Instr) { list[2].A = another },
		"the key is told in its place": func(list []api.Instr) { list[4].A = aKey },
		"the value is told first":      func(list []api.Instr) { list[3].A = aValue },
		"both the wrong way round":     func(list []api.Instr) { list[3].A, list[4].A = aValue, aKey },
		"another Int for the key":      func(list []api.Instr) { list[3].A = anInt },
		"another Int for the value":    func(list []api.Instr) { list[4].A = anInt },
		"another Int to the key":       func(list []api.Instr) { list[2].B = anInt },
		"another Int to the value":     func(list []api.Instr) { list[2].C = anInt },
		"key and value in one local":   func(list []api.Instr) { list[2].C, list[4].A = aKey, aKey },
		"the key is not told":          func(list []api.Instr) { list[3] = api.Instr{Op: api.OpYield} },
		"the value is not told":        func(list []api.Instr) { list[4] = api.Instr{Op: api.OpYield} },
		"it does not go back":          func(list []api.Instr) { list[5] = api.Instr{Op: api.OpYield} },
		"it ends":                      func(list []api.Instr) { list[5] = halt },
		"it goes back too far":         func(list []api.Instr) { list[5].A = 1 },
		"it goes back to the key":      func(list []api.Instr) { list[5].A = 3 },
		"it goes on behind":            func(list []api.Instr) { list[5].A = 6 },
		"it goes back by OpIf":         func(list []api.Instr) { list[5] = api.Instr{Op: api.OpIf, A: aFlag, B: 2} },
		"it goes on at itself":         func(list []api.Instr) { list[2].D = 2 },
		"it goes on too early":         func(list []api.Instr) { list[2].D = 5 },
		"it goes on too late":          func(list []api.Instr) { list[2].D = 7 },
		"it goes on at the beginning":  func(list []api.Instr) { list[2].D = 0 },
		"it moves":                     func(list []api.Instr) { list[3] = api.Instr{Op: api.OpMove, A: anInt, B: aKey} },
	} {
		list := slices.Concat([]api.Instr{{Op: api.OpMake}}, oneLoop(1), []api.Instr{{Op: api.OpYield}, halt})
		wantPlain(t, "as it is", loops(list...), true)
		change(list)
		hold(t, loops(list...))
		wantPlain(t, what, loops(list...), false)
	}
}

// P19.2: who else goes on in a loop: no jump, no OpIf and no other OpNext may, but to the OpIter, and behind the loop.
func TestPlainFromOutside(t *testing.T) {
	for to := range 11 {
		for _, ahead := range []bool{false, true} {
			for _, in := range []api.Instr{{Op: api.OpJump, A: to}, {Op: api.OpIf, A: aFlag, B: to}} {
				list := slices.Concat([]api.Instr{{Op: api.OpYield}, {Op: api.OpYield}}, oneLoop(2), []api.Instr{{Op: api.OpYield}, {Op: api.OpYield}, {Op: api.OpYield}, halt})
				if ahead {
					list[0] = in
				} else {
					list[8] = in
				}
				hold(t, loops(list...))
				wantPlain(t, "a jump from outside", loops(list...), to < 3 || to > 6)
			}
		}
	}
	// The one ahead of it goes on at the OpNext anyway, but must be the OpIter.
	wantPlain(t, "an OpIf ahead of the OpIter", loops(slices.Concat([]api.Instr{{Op: api.OpIf, A: aFlag, B: 1}}, oneLoop(1), []api.Instr{halt})...), true)
}

// P19.2: loops one behind the other, and in several functions.
func TestPlainSeveral(t *testing.T) {
	two := slices.Concat(oneLoop(0), loop(5, aMap, another, anInt, aValue), []api.Instr{{Op: api.OpIf, A: aFlag, B: 5}, {Op: api.OpIf, A: aFlag, B: 0}, halt})
	wantPlain(t, "two loops", loops(two...), true)
	for i := range two {
		for _, change := range []api.Instr{{Op: api.OpYield}, {Op: api.OpJump, A: 1}, {Op: api.OpJump, A: 6}, {Op: api.OpOut, A: anInt}, {Op: api.OpNext, A: anIter, B: aKey, C: aValue, D: 1}} {
			list := slices.Clone(two)
			list[i] = change
			hold(t, loops(list...))
		}
	}
	p := loops(two...)
	p.Funcs = append(p.Funcs, loops(slices.Concat(oneLoop(0), []api.Instr{halt})...).Funcs...)
	wantPlain(t, "two functions", p, true)
	p.Funcs[1].Code[2].A = aValue
	wantPlain(t, "the second is not", p, false)
	p.Funcs[0], p.Funcs[1] = p.Funcs[1], p.Funcs[0]
	wantPlain(t, "the first is not", p, false)
	// What goes on within another function is of no matter.
	p = loops(slices.Concat(oneLoop(0), []api.Instr{halt})...)
	p.Funcs = append(p.Funcs, api.Func{Code: []api.Instr{{Op: api.OpJump, A: 1}, {Op: api.OpJump, A: 2}, {Op: api.OpJump, A: 3}, {Op: api.OpJump, A: 4}, halt}})
	wantPlain(t, "jumps within another function", p, true)
}

// P19.2: an OpNext at the ends of a function, where a loop has no room.
func TestPlainAtTheEnds(t *testing.T) {
	next := api.Instr{Op: api.OpNext, A: anIter, B: aKey, C: aValue}
	wantPlain(t, "at the beginning", loops(next, api.Instr{Op: api.OpOut, A: aKey}, api.Instr{Op: api.OpOut, A: aValue}, api.Instr{Op: api.OpJump}, halt), false)
	wantPlain(t, "ahead of the end", loops(api.Instr{Op: api.OpIter, A: anIter}, next, halt), false)
	list := oneLoop(0)
	for n := 2; n < len(list); n++ {
		cut := append(slices.Clone(list[:n]), halt)
		cut[1].D = 0
		wantPlain(t, "cut", loops(cut...), false)
	}
	// Behind the loop there must be an instruction at which the OpNext goes on.
	wantFault(t, "a loop with nothing behind it", loops(list...), 1, 2)
}

// P19.2, held against the model: two loops and what surrounds them, with each number of each instruction changed to each other that is near.
func TestPlainNumbers(t *testing.T) {
	p := loops(slices.Concat([]api.Instr{{Op: api.OpMake}, {Op: api.OpIf, A: aFlag, B: 7}}, oneLoop(2), loop(7, aMap, another, anInt, aKey), []api.Instr{{Op: api.OpJump, A: 2}})...)
	wantPlain(t, "as it is", p, true)
	count := map[bool]int{}
	for i := range p.Funcs[0].Code {
		in := &p.Funcs[0].Code[i]
		for _, n := range []*int{&in.Op, &in.A, &in.B, &in.C, &in.D} {
			before := *n
			for other := range 42 {
				*n = other
				if _, _, e := hold(t, p); e == api.OK {
					count[verify.Plain(p)]++
				}
			}
			*n = before
		}
	}
	if count[true] < 10 || count[false] < 30 {
		t.Errorf("the programs are too much alike: %v", count)
	}
}
