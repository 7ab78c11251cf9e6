package verify_test

import (
	"fmt"
	"math"
	"testing"

	"heddle/api"
	"heddle/code"
	"heddle/progs"
	"heddle/verify"
)

// full answers a sound program with each operation, and each way of OpArith.
func full() api.Prog {
	p := within(each())
	p.Strs = []string{"a", "b"}
	p.Globals = []int{tInt, tMap}
	p.Funcs[0].Code = []api.Instr{
		{Op: api.OpInt, A: tInt, N: math.MaxUint64}, {Op: api.OpFloat, A: tFloat, N: 1 << 63}, {Op: api.OpBool, A: tBool, N: 1}, {Op: api.OpStr, A: tStr, B: 1},
		{Op: api.OpMove, A: tMap, B: tMap}, {Op: api.OpEq, A: tYes, B: tStruct, C: tStruct}, {Op: api.OpNot, A: tBool, B: tYes},
		{Op: api.OpConcat, A: tStr, B: tText, C: tStr}, {Op: api.OpSlice, A: tStr, B: tText, C: tInt, D: tOther}, {Op: api.OpLen, A: tInt, B: tStr}, {Op: api.OpByte, A: tInt, B: tStr, C: tOther},
		{Op: api.OpNew, A: tPtr}, {Op: api.OpLoad, A: tInt, B: tPtr}, {Op: api.OpStore, A: tPtr, B: tInt},
		{Op: api.OpGetField, A: tStr, B: tToPart, C: 1}, {Op: api.OpSetField, A: tToPart, B: 2, C: tOther}, {Op: api.OpGetElem, A: tInt, B: tToArray, C: tOther}, {Op: api.OpSetElem, A: tToArray, B: tOther, C: tInt},
		{Op: api.OpPart, A: tOther, B: tStruct, C: 2}, {Op: api.OpPut, A: tHolder, B: 1, C: tMap},
		{Op: api.OpBox, A: tIface, B: tMap}, {Op: api.OpUnbox, A: tMap, B: tIface}, {Op: api.OpIs, A: tBool, B: tIface, C: tReal},
		{Op: api.OpMake, A: tMap}, {Op: api.OpGet, A: tInt, B: tMap, C: tStr, D: tBool}, {Op: api.OpSet, A: tMap, B: tStr, C: tInt}, {Op: api.OpDelete, A: tMap, B: tStr}, {Op: api.OpClear, A: tMap}, {Op: api.OpCount, A: tInt, B: tMap},
		{Op: api.OpIter, A: tIter, B: tMap}, {Op: api.OpNext, A: tIter, B: tStr, C: tInt, D: 34}, {Op: api.OpOut, A: tStr}, {Op: api.OpOut, A: tInt}, {Op: api.OpJump, A: 30},
		{Op: api.OpIf, A: tBool, B: 0}, {Op: api.OpCall, A: tInt + 1, B: 1, Args: []int{tStr, tMap}}, {Op: api.OpCall, B: 1, Args: []int{tStr, tMap}}, {Op: api.OpCall, B: 2},
		{Op: api.OpGlobal, A: tInt, B: 0}, {Op: api.OpSetGlobal, A: 1, B: tMap}, {Op: api.OpYield},
	}
	for way := api.AddInt; way <= api.OrB; way++ {
		in := api.Instr{Op: api.OpArith, A: tInt, B: tInt, C: tOther, D: way}
		switch {
		case way == api.LtInt:
			in.A = tBool
		case way >= api.AddF && way <= api.DivF:
			in.A, in.B, in.C = tFloat, tFloat, tReal
		case way == api.LtF:
			in.A, in.B, in.C = tYes, tReal, tFloat
		case way == api.LtStr:
			in.A, in.B, in.C = tYes, tStr, tText
		case way >= api.AndB:
			in.A, in.B, in.C = tYes, tBool, tYes
		}
		p.Funcs[0].Code = append(p.Funcs[0].Code, in)
	}
	p.Funcs[0].Code = append(p.Funcs[0].Code, halt)
	p.Funcs = append(p.Funcs,
		api.Func{Params: 2, Locals: []int{tStr, tMap, tInt}, Result: tInt + 1, Code: []api.Instr{{Op: api.OpRet, A: 3}}},
		api.Func{Locals: []int{tBool}, Code: []api.Instr{{Op: api.OpIf, B: 2}, {Op: api.OpJump}, {Op: api.OpRet}}})
	return p
}

// P19.1: each operation, among the ordinary ones.
func TestEachOperation(t *testing.T) {
	p := full()
	wantSound(t, "each operation", p)
	seen := map[int]bool{}
	for _, f := range p.Funcs {
		for _, in := range f.Code {
			seen[in.Op] = true
		}
	}
	if len(seen) != opCount {
		t.Errorf("there are %d operations", len(seen))
	}
}

// numbers answers what the field with that letter is tried with.
func numbers(op int, letter rune) (list []int) {
	top := typeCount
	switch {
	case op == api.OpArith && letter == 'D':
		top = api.OrB + 1
	case op == api.OpNext && letter == 'D', op == api.OpJump, op == api.OpIf && letter == 'B':
		top = 3
	}
	for n := range top + 1 {
		list = append(list, n)
	}
	return append(list, limit)
}

// combine calls try with each instruction of an operation whose fields are all of what they are tried with.
func combine(in api.Instr, letters string, try func(in api.Instr)) {
	if letters == "" {
		try(in)
		return
	}
	rest := letters[1:]
	switch letters[0] {
	case 'N':
		for _, n := range []uint64{0, 1, 2, 3, 256, 1 << 32, 1 << 63, math.MaxUint64} {
			in.N = n
			combine(in, rest, try)
		}
		return
	case 'G':
		combine(in, rest, try)
		return
	}
	letter := rune(letters[0])
	for _, n := range numbers(in.Op, letter) {
		combine(progs.WithField(in, letter, n), rest, try)
	}
}

// sounds has how many of the instructions that are tried are sound, counted by the table's words: Bool, Str and Float twice, as Int.
var sounds = map[int]int{
	api.OpInt:   2 * 8,
	api.OpFloat: 2 * 8,
	api.OpBool:  2 * 2,
	// Two strings.
	api.OpStr: 2 * 2,
	// All types but two iterators.
	api.OpMove: typeCount - 2,
	// Ten ways of Ints, one to a Bool, four of Floats, and then three of four to a Bool.
	api.OpArith: 10*2*2*2 + 2*2*2 + 4*2*2*2 + 4*2*2*2,
	// All but two maps, two iterators, a struct and an array of a map.
	api.OpEq:     2 * (typeCount - 6),
	api.OpNot:    2 * 2,
	api.OpConcat: 2 * 2 * 2,
	api.OpSlice:  2 * 2 * 2 * 2,
	api.OpLen:    2 * 2,
	api.OpByte:   2 * 2 * 2,
	api.OpNew:    5,
	api.OpLoad:   5,
	api.OpStore:  5,
	// One pointer to a struct of three fields.
	api.OpGetField: 3,
	api.OpSetField: 3,
	// One pointer to an array, two Ints.
	api.OpGetElem: 2,
	api.OpSetElem: 2,
	// Structs of three and of two fields.
	api.OpPart:  5,
	api.OpPut:   5,
	api.OpBox:   typeCount - 3,
	api.OpUnbox: typeCount - 3,
	api.OpIs:    2 * (typeCount - 3),
	api.OpMake:  2,
	api.OpClear: 2,
	api.OpCount: 2 * 2,
	// Two maps, with each Bool.
	api.OpGet:    2 * 2,
	api.OpSet:    2,
	api.OpDelete: 2,
	api.OpIter:   2,
	// Two iterators, at three instructions.
	api.OpNext: 2 * 3,
	api.OpJump: 3,
	api.OpIf:   2 * 3,
	// Of a function without parameters and without a result.
	api.OpCall: 1,
	api.OpRet:  1,
	// Two globals.
	api.OpGlobal:    2,
	api.OpSetGlobal: 2,
	api.OpOut:       typeCount - 2,
	api.OpHalt:      1,
	api.OpYield:     1,
}

// P19.1: each operation, with locals of all types in all its fields, and with numbers of nothing, held against the model and counted.
func TestAllFields(t *testing.T) {
	for op := 1; op <= opCount; op++ {
		letters, e := code.Fields(op)
		if e != api.OK {
			t.Fatalf("Fields(%d): %d", op, e)
		}
		p := within(each(), halt, halt, halt)
		p.Strs = []string{"a", "b"}
		p.Globals = []int{tInt, tHolder}
		m := model{p, p.Funcs[0]}
		count := 0
		combine(api.Instr{Op: op}, letters, func(in api.Instr) {
			p.Funcs[0].Code[1] = in
			fn, at, e := verify.Check(p)
			if want := m.sound(in); want && (fn != 0 || at != 0 || e != api.OK) || !want && (fn != 1 || at != 2 || e != api.ErrForm) {
				t.Errorf("Check with %+v: %d, %d, %d, want %v", in, fn, at, e, want)
			}
			if e == api.OK {
				count++
			}
		})
		if count != sounds[op] {
			t.Errorf("of operation %d, %d instructions are sound, want %d", op, count, sounds[op])
		}
	}
}

// P19.1: a type is the same as another by its number, in whichever locals: two of each type, and of the two Ints.
func TestSameTypes(t *testing.T) {
	locals := []int{tInt, tOther, tInt, tPtr, tStruct, tPtr, tMap, tStr, tIter, tIter}
	try := func(want bool, in api.Instr) {
		t.Helper()
		p := within(locals, in, halt)
		if want {
			wantSound(t, fmt.Sprint(in), p)
		} else {
			wantFault(t, fmt.Sprint(in), p, 1, 1)
		}
	}
	try(true, api.Instr{Op: api.OpMove, A: 0, B: 2})
	try(true, api.Instr{Op: api.OpMove, A: 5, B: 3})
	try(false, api.Instr{Op: api.OpMove, A: 0, B: 1})
	try(false, api.Instr{Op: api.OpMove, A: 1, B: 2})
	try(false, api.Instr{Op: api.OpMove, A: 8, B: 9})
	try(false, api.Instr{Op: api.OpMove, A: 8, B: 8})
	try(false, api.Instr{Op: api.OpMove, A: 10, B: 10})
	try(false, api.Instr{Op: api.OpMove, A: 10, B: 11})
	try(true, api.Instr{Op: api.OpLoad, A: 2, B: 5})
	try(false, api.Instr{Op: api.OpLoad, A: 1, B: 5})
	try(false, api.Instr{Op: api.OpLoad, A: 10, B: 10})
	try(true, api.Instr{Op: api.OpPart, A: 1, B: 4, C: 2})
	try(false, api.Instr{Op: api.OpPart, A: 0, B: 4, C: 2})
	try(false, api.Instr{Op: api.OpPart, A: 10, B: 4, C: 3})
	try(false, api.Instr{Op: api.OpPart, A: 10, B: 10, C: 10})
	try(true, api.Instr{Op: api.OpDelete, A: 6, B: 7})
	try(false, api.Instr{Op: api.OpDelete, A: 10, B: 10})
	try(false, api.Instr{Op: api.OpIter, A: 10, B: 10})
	try(false, api.Instr{Op: api.OpGlobal, A: 10, B: 0})
	try(false, api.Instr{Op: api.OpNext, A: 8, B: 7, C: 1, D: 0})
	try(true, api.Instr{Op: api.OpNext, A: 8, B: 7, C: 2, D: 0})
}

// P19.1: types may name themselves and later ones.
func TestKnots(t *testing.T) {
	// A pointer to itself, one to a struct that holds it, and a map of itself.
	p := api.Prog{Types: []api.Type{
		{Kind: api.KPtr, Elem: 0}, {Kind: api.KPtr, Elem: 2}, {Kind: api.KStruct, Fields: []int{1, 0}}, {Kind: api.KMap, Key: 1, Elem: 3}, {Kind: api.KIter, Elem: 3}, {Kind: api.KBool},
	}}
	p.Funcs = []api.Func{{Locals: []int{0, 1, 2, 3, 4, 5}}}
	for op := 1; op <= opCount; op++ {
		if op == api.OpCall {
			continue
		}
		letters, _ := code.Fields(op)
		count := 0
		combine(api.Instr{Op: op}, letters, func(in api.Instr) {
			if max(in.A, in.B, in.C, in.D) > 7 {
				return
			}
			p.Funcs[0].Code = []api.Instr{in, halt}
			if _, _, e := hold(t, p); e == api.OK {
				count++
			}
		})
		if op == api.OpLoad && count != 2 || op == api.OpGet && count != 1 || op == api.OpEq && count != 4 {
			t.Errorf("of operation %d, %d are sound", op, count)
		}
	}
}

// calls answers a program whose first function has the instruction handed in, and whose second one has that head.
func calls(in api.Instr, params, result int, locals ...int) api.Prog {
	p := within([]int{tInt, tStr, tInt, tOther, tIter}, in, halt)
	p.Funcs = append(p.Funcs, api.Func{Params: params, Locals: locals, Result: result, Code: []api.Instr{halt}})
	return p
}

// P19.1: calls: which function, how many arguments of which types, and where the result goes.
func TestCalls(t *testing.T) {
	call := func(a, b int, args ...int) api.Instr {
		return api.Instr{Op: api.OpCall, A: a, B: b, Args: args}
	}
	for _, c := range []struct {
		want   bool
		in     api.Instr
		params int
		result int
		locals []int
	}{
		{true, call(0, 1), 0, 0, nil},
		{true, call(0, 0), 0, 0, nil},
		{false, call(0, 2), 0, 0, nil},
		{false, call(0, limit), 0, 0, nil},
		// Locals that are no parameters are not handed over.
		{true, call(0, 1), 0, 0, []int{tInt, tStr}},
		{false, call(0, 1, 0), 0, 0, []int{tInt}},
		{true, call(0, 1, 0), 1, 0, []int{tInt}},
		{true, call(0, 1, 2), 1, 0, []int{tInt, tStr}},
		{false, call(0, 1, 3), 1, 0, []int{tInt}},
		{false, call(0, 1, 1), 1, 0, []int{tInt}},
		{false, call(0, 1, 5), 1, 0, []int{tInt}},
		{false, call(0, 1, limit), 1, 0, []int{tInt}},
		{false, call(0, 1), 1, 0, []int{tInt}},
		{false, call(0, 1, 0, 0), 1, 0, []int{tInt, tInt}},
		{true, call(0, 1, 0, 1), 2, 0, []int{tInt, tStr}},
		{true, call(0, 1, 0, 0), 2, 0, []int{tInt, tInt}},
		{false, call(0, 1, 1, 0), 2, 0, []int{tInt, tStr}},
		{false, call(0, 1, 0, 5), 2, 0, []int{tInt, tStr}},
		{false, call(0, 1, 0), 2, 0, []int{tInt, tStr}},
		// Where the result goes: nowhere, or to a local of its type.
		{true, call(0, 1), 0, tInt + 1, nil},
		{true, call(1, 1), 0, tInt + 1, nil},
		{true, call(3, 1), 0, tInt + 1, nil},
		{false, call(4, 1), 0, tInt + 1, nil},
		{true, call(4, 1), 0, tOther + 1, nil},
		{false, call(2, 1), 0, tInt + 1, nil},
		{true, call(2, 1), 0, tStr + 1, nil},
		{false, call(6, 1), 0, tInt + 1, nil},
		{false, call(limit, 1), 0, tInt + 1, nil},
		// Bool has the number 0, and one; no result has 0 itself.
		{false, call(1, 1), 0, 0, nil},
		{false, call(1, 1), 0, tBool + 1, nil},
		{false, call(6, 1), 0, 0, nil},
		{false, call(1, 0), 0, 0, nil},
	} {
		p := calls(c.in, c.params, c.result, c.locals...)
		hold(t, p)
		if c.want {
			wantSound(t, fmt.Sprint(c.in), p)
		} else {
			wantFault(t, fmt.Sprint(c.in), p, 1, 1)
		}
	}
	own := within([]int{tBool}, call(1, 0), halt)
	own.Funcs[0].Result = tBool + 1
	wantSound(t, "a function that calls itself", own)
}

// P19.1: calls of functions whose heads are at fault, which stand behind: the call is at fault only where what is asked of it does not hold.
func TestCallsOfFaultyHeads(t *testing.T) {
	call := func(a int, args ...int) api.Instr {
		return api.Instr{Op: api.OpCall, A: a, B: 1, Args: args}
	}
	// There are no types for so many arguments.
	wantFault(t, "more parameters than locals", calls(call(0, 0, 0), 2, 0, tInt), 1, 1)
	wantFault(t, "more parameters than locals, of no type", calls(call(0, 0, 9), 2, 0, tInt), 1, 1)
	wantFault(t, "more parameters than locals, fewer handed over", calls(call(0, 0), 2, 0, tInt), 1, 1)
	wantFault(t, "as many parameters as numbers", calls(call(0), limit, 0), 1, 1)
	wantFault(t, "a parameter of no type", calls(call(0, 0), 1, 0, 99), 1, 1)
	wantFault(t, "a result of no type", calls(call(1), 0, 99), 1, 1)
	wantFault(t, "a result far from any type", calls(call(1), 0, limit), 1, 1)
	wantFault(t, "a result of no type that goes nowhere", calls(call(0), 0, 99), 2, 0)
	wantFault(t, "a result that is an iterator", calls(call(5), 0, tIter+1), 2, 0)
	wantFault(t, "a parameter that is an iterator", calls(call(0, 4), 1, 0, tIter), 2, 0)
	wantFault(t, "a local of no type", calls(call(0, 0), 1, 0, tInt, 99), 2, 0)
}

// P19.1: what is brought back: nothing where there is no result, else a local of its type.
func TestReturns(t *testing.T) {
	locals := []int{tInt, tStr, tInt, tBool, tOther}
	for result := range typeCount + 1 {
		for _, a := range []int{0, 1, 2, 3, 4, 5, 6, 7, limit} {
			if result == tIter+1 || result == tFlag+1 {
				continue
			}
			p := second(api.Func{Locals: locals, Result: result, Code: []api.Instr{halt, {Op: api.OpRet, A: a}}})
			want := result == 0 && a == 0 || result != 0 && a >= 1 && a <= len(locals) && locals[a-1] == result-1
			if want {
				wantSound(t, fmt.Sprint(result, a), p)
			} else {
				wantFault(t, fmt.Sprint(result, a), p, 2, 2)
			}
		}
	}
}

// P19.1: strings and globals, by their numbers, at the ends of their lists.
func TestNumbersOfLists(t *testing.T) {
	p := within([]int{tStr, tInt}, api.Instr{Op: api.OpStr, B: 0}, halt)
	wantFault(t, "a string where there are none", p, 1, 1)
	p.Strs = []string{"x"}
	wantSound(t, "the first", p)
	p.Funcs[0].Code[0].B = 1
	wantFault(t, "one behind the last", p, 1, 1)
	p.Funcs[0].Code[0] = api.Instr{Op: api.OpGlobal, A: 1, B: 0}
	wantFault(t, "a global where there are none", p, 1, 1)
	p.Funcs[0].Code[0] = api.Instr{Op: api.OpSetGlobal, A: 0, B: 1}
	wantFault(t, "a global that is set where there are none", p, 1, 1)
	p.Globals = []int{tInt}
	wantSound(t, "the first that is set", p)
	p.Funcs[0].Code[0].A = 1
	wantFault(t, "one behind the last that is set", p, 1, 1)
	p.Funcs[0].Code[0] = api.Instr{Op: api.OpSetGlobal, A: 0, B: 0}
	wantFault(t, "one of another type that is set", p, 1, 1)
	p.Funcs[0].Code[0] = api.Instr{Op: api.OpGlobal, A: 0, B: 0}
	wantFault(t, "one of another type", p, 1, 1)
}

// P19.1: where it goes on: each instruction of the function, and none behind them.
func TestPlaces(t *testing.T) {
	for to := range 6 {
		for _, in := range []api.Instr{{Op: api.OpJump, A: to}, {Op: api.OpIf, A: 0, B: to}, {Op: api.OpNext, A: 1, B: 2, C: 3, D: to}} {
			p := within([]int{tBool, tIter, tStr, tInt}, api.Instr{Op: api.OpYield}, in, api.Instr{Op: api.OpYield}, halt)
			if to < 4 {
				wantSound(t, fmt.Sprint(in), p)
			} else {
				wantFault(t, fmt.Sprint(in), p, 1, 2)
			}
		}
	}
	wantSound(t, "a jump to itself", within(nil, api.Instr{Op: api.OpJump}))
}
