package verify_test

import (
	"math"
	"slices"
	"strings"
	"testing"

	"heddle/api"
	"heddle/code"
	"heddle/progs"
	"heddle/verify"
)

// example answers a program with the chapter's types.
func example(locals []int, list ...api.Instr) api.Prog {
	return api.Prog{
		Types: []api.Type{{Kind: api.KInt}, {Kind: api.KMap}, {Kind: api.KIter, Elem: 1}},
		Funcs: []api.Func{{Locals: locals, Code: list}},
	}
}

// P19.1: the chapter's first example.
func TestFirstExample(t *testing.T) {
	five, out := api.Instr{Op: api.OpInt, N: 5}, api.Instr{Op: api.OpOut}
	wantSound(t, "as it is", example([]int{0}, five, out, halt))
	wantFault(t, "without OpHalt", example([]int{0}, five, out), 1, 0)
	wantFault(t, "OpOut 1", example([]int{0}, five, api.Instr{Op: api.OpOut, A: 1}, halt), 1, 2)
}

// P19.1: what can't be written is at fault outside the functions, wherever it stands.
func TestCheckWhatCannotBeWritten(t *testing.T) {
	sound := func() api.Prog {
		p := within([]int{tInt}, api.Instr{Op: api.OpInt}, halt)
		p.Globals = []int{tInt}
		p.Funcs = append(p.Funcs, api.Func{Params: 1, Locals: []int{tInt, tStr}, Result: tInt + 1, Code: []api.Instr{{Op: api.OpRet, A: 1}}})
		return p
	}
	wantSound(t, "as it is", sound())
	for what, spoil := range map[string]func(p *api.Prog){
		"no Op":              func(p *api.Prog) { p.Funcs[1].Code[0].Op = 0 },
		"an Op too high":     func(p *api.Prog) { p.Funcs[0].Code[0].Op = opCount + 1 },
		"an Op below":        func(p *api.Prog) { p.Funcs[0].Code[0].Op = -1 },
		"no Kind":            func(p *api.Prog) { p.Types[tOther].Kind = 0 },
		"a Kind too high":    func(p *api.Prog) { p.Types[tOther].Kind = 11 },
		"a Params below":     func(p *api.Prog) { p.Funcs[1].Params = -1 },
		"Params far below":   func(p *api.Prog) { p.Funcs[0].Params = math.MinInt },
		"a local below":      func(p *api.Prog) { p.Funcs[1].Locals[1] = -1 },
		"a result below":     func(p *api.Prog) { p.Funcs[1].Result = -1 },
		"a result too high":  func(p *api.Prog) { p.Funcs[1].Result = limit + 1 },
		"a global below":     func(p *api.Prog) { p.Globals[0] = -1 },
		"an A below":         func(p *api.Prog) { p.Funcs[0].Code[0].A = -1 },
		"an A too high":      func(p *api.Prog) { p.Funcs[1].Code[0].A = limit + 1 },
		"a B that has no op": func(p *api.Prog) { p.Funcs[1].Code[0].B = 1 },
		"an N that has none": func(p *api.Prog) { p.Funcs[1].Code[0].N = 1 },
		"Args of no call":    func(p *api.Prog) { p.Funcs[1].Code[0].Args = []int{0} },
		"a Len of no array":  func(p *api.Prog) { p.Types[tInt].Len = 2 },
		"Fields of an Int":   func(p *api.Prog) { p.Types[tInt].Fields = []int{0} },
	} {
		p := sound()
		spoil(&p)
		wantFault(t, what, p, 0, 0)
	}
	p := sound()
	p.Funcs[0].Code[1].Args = []int{}
	wantSound(t, "Args that are empty", p)
}

// P19.1: a table of types that is not sound.
func TestCheckTypes(t *testing.T) {
	p := within(nil, halt)
	for _, faulty := range [][]api.Type{
		append(table(), api.Type{Kind: api.KPtr, Elem: typeCount + 1}),
		append(table(), api.Type{Kind: api.KIter, Elem: tInt}),
		append(table(), api.Type{Kind: api.KMap, Key: tMap, Elem: tInt}),
		append(table(), api.Type{Kind: api.KStruct}),
		append(table(), api.Type{Kind: api.KArray, Elem: tInt, Len: 17}),
		slices.Repeat([]api.Type{{Kind: api.KInt}}, api.MaxTypes+1),
	} {
		p.Types = faulty
		wantFault(t, "types", p, 0, 0)
	}
	p.Types = slices.Repeat([]api.Type{{Kind: api.KInt}}, api.MaxTypes)
	wantSound(t, "as many types as there may be", p)
	p.Types = nil
	wantSound(t, "no types", p)
}

// P19.1: how many strings there may be, and how long ones.
func TestCheckStrings(t *testing.T) {
	p := within(nil, halt)
	p.Strs = slices.Repeat([]string{strings.Repeat("x", api.MaxStr)}, api.MaxFuncs)
	wantSound(t, "as many strings as there may be", p)
	if _, e := code.Encode(p); e != api.ErrLarge {
		t.Errorf("they are not too many bytes: %d", e)
	}
	for i := range p.Strs {
		q := progs.Copy(p)
		q.Strs[i] += "x"
		wantFault(t, "a string too long", q, 0, 0)
	}
	p.Strs = make([]string, api.MaxFuncs)
	wantSound(t, "empty strings", p)
	p.Strs = make([]string, api.MaxFuncs+1)
	wantFault(t, "too many strings", p, 0, 0)
	p.Strs = []string{"\x00\xff\xfe"}
	wantSound(t, "bytes that are no text", p)
}

// P19.1: how many globals there may be, and of which types.
func TestCheckGlobals(t *testing.T) {
	p := within(nil, halt)
	for kind := range p.Types {
		p.Globals = []int{tInt, kind}
		hold(t, p)
	}
	p.Globals = []int{tIter}
	wantFault(t, "a global that is an iterator", p, 0, 0)
	p.Globals = []int{tInt, typeCount}
	wantFault(t, "a global of no type", p, 0, 0)
	p.Globals = []int{limit, tInt}
	wantFault(t, "a global far from any type", p, 0, 0)
	p.Globals = make([]int, api.MaxFuncs)
	wantSound(t, "as many globals as there may be", p)
	p.Globals = make([]int, api.MaxFuncs+1)
	wantFault(t, "too many globals", p, 0, 0)
	p.Types = nil
	p.Globals = []int{0}
	wantFault(t, "a global where there are no types", p, 0, 0)
}

// P19.1: how many functions there may be.
func TestCheckFunctions(t *testing.T) {
	wantFault(t, "nothing", api.Prog{}, 0, 0)
	p := within(nil, halt)
	p.Funcs = nil
	wantFault(t, "no function", p, 0, 0)
	p.Funcs = slices.Repeat([]api.Func{{Code: []api.Instr{halt}}}, api.MaxFuncs)
	wantSound(t, "as many functions as there may be", p)
	p.Funcs[api.MaxFuncs-1].Code = nil
	wantFault(t, "the last one", p, api.MaxFuncs, 0)
	p.Funcs = append(p.Funcs, p.Funcs[0])
	wantFault(t, "too many functions", p, 0, 0)
}

// P19.1: function 0 has no parameters, which the program asks, not the function's head.
func TestCheckFirstFunction(t *testing.T) {
	p := within([]int{tInt}, halt)
	p.Funcs = append(p.Funcs, api.Func{Params: 1, Locals: []int{tInt}, Code: []api.Instr{halt}})
	wantSound(t, "a second one with parameters", p)
	p.Funcs[0].Params = 1
	wantFault(t, "a first one with parameters", p, 0, 0)
	p.Funcs[0].Params = 2
	wantFault(t, "a first one with more parameters than locals", p, 0, 0)
}

// second answers a program whose second function is f, or has f's head and OpHalt.
func second(f api.Func) api.Prog {
	p := within(nil, halt)
	if f.Code == nil {
		f.Code = []api.Instr{halt}
	}
	p.Funcs = append(p.Funcs, f)
	return p
}

// P19.1: heads of functions, by their locals and their results.
func TestCheckHeads(t *testing.T) {
	wantSound(t, "nothing but a halt", second(api.Func{}))
	wantSound(t, "all locals are parameters", second(api.Func{Params: 2, Locals: []int{tInt, tMap}}))
	wantSound(t, "locals that are iterators", second(api.Func{Params: 2, Locals: []int{tInt, tMap, tIter, tFlag}}))
	wantFault(t, "more parameters than locals", second(api.Func{Params: 3, Locals: []int{tInt, tMap}}), 2, 0)
	wantFault(t, "far more parameters", second(api.Func{Params: limit}), 2, 0)
	wantSound(t, "as many locals as there may be", second(api.Func{Locals: make([]int, api.MaxLocals)}))
	wantSound(t, "as many parameters as there may be", second(api.Func{Params: api.MaxLocals, Locals: make([]int, api.MaxLocals)}))
	wantFault(t, "too many locals", second(api.Func{Locals: make([]int, api.MaxLocals+1)}), 2, 0)
	for kind := range typeCount + 1 {
		wantKind := func(what string, f api.Func, ok bool) {
			t.Helper()
			if ok {
				wantSound(t, what, second(f))
			} else {
				wantFault(t, what, second(f), 2, 0)
			}
		}
		isType, isIter := kind < typeCount, kind == tIter || kind == tFlag
		wantKind("a local", api.Func{Locals: []int{tInt, kind}}, isType)
		wantKind("a first local", api.Func{Params: 1, Locals: []int{tInt, kind, tInt}}, isType)
		wantKind("a parameter", api.Func{Params: 2, Locals: []int{tInt, kind, tInt}}, isType && !isIter)
		wantKind("a result", api.Func{Result: kind + 1}, isType && !isIter)
	}
	wantFault(t, "a local far from any type", second(api.Func{Locals: []int{limit}}), 2, 0)
	wantFault(t, "a result far from any type", second(api.Func{Result: limit}), 2, 0)
}

// P19.1: how many instructions there may be, and what the last one is.
func TestCheckCode(t *testing.T) {
	p := within([]int{tBool}, make([]api.Instr, 0)...)
	wantFault(t, "no instructions", p, 1, 0)
	p.Funcs[0].Code = append(slices.Repeat([]api.Instr{{Op: api.OpYield}}, api.MaxCode-1), halt)
	wantSound(t, "as many as there may be", p)
	p.Funcs[0].Code = append(p.Funcs[0].Code, halt)
	wantFault(t, "too many", p, 1, 0)
	for op := 1; op <= opCount; op++ {
		p := within(each(), api.Instr{Op: op})
		fn, at, e := verify.Check(p)
		if last := op == api.OpJump || op == api.OpRet || op == api.OpHalt; last != (e == api.OK) || !last && (fn != 1 || at != 0) {
			t.Errorf("the last is %d: %d, %d, %d", op, fn, at, e)
		}
	}
	wantSound(t, "a last OpRet", second(api.Func{Locals: []int{tInt}, Result: tInt + 1, Code: []api.Instr{{Op: api.OpRet, A: 1}}}))
	wantFault(t, "a last OpIf", second(api.Func{Locals: []int{tBool}, Code: []api.Instr{halt, {Op: api.OpIf}}}), 2, 0)
	wantFault(t, "a last OpYield", second(api.Func{Code: []api.Instr{halt, {Op: api.OpYield}}}), 2, 0)
}

// P19.1: what is great and sound: programs of more bytes than can be answered.
func TestCheckGreatPrograms(t *testing.T) {
	long := append(slices.Repeat([]api.Instr{{Op: api.OpInt, A: 1, N: math.MaxUint64}}, api.MaxCode-1), halt)
	p := within(nil)
	p.Funcs = slices.Repeat([]api.Func{{Locals: make([]int, api.MaxLocals), Code: long}}, api.MaxFuncs)
	for i := range p.Funcs {
		p.Funcs[i].Locals = slices.Repeat([]int{tInt}, api.MaxLocals)
	}
	wantSound(t, "the greatest program", p)
	if _, e := code.Encode(p); e != api.ErrLarge {
		t.Errorf("it has not too many bytes: %d", e)
	}
	p = progs.Copy(p)
	p.Funcs[api.MaxFuncs-1].Code[api.MaxCode-2].A = api.MaxLocals
	wantFault(t, "its last instruction but one", p, api.MaxFuncs, api.MaxCode-1)
}

// P19.1: of several faults the first is told: what lies outside the functions, then function by function, the head ahead of the instructions.
func TestCheckFirstFault(t *testing.T) {
	bad := api.Instr{Op: api.OpOut, A: 99}
	list := []func(p *api.Prog){
		func(p *api.Prog) { p.Globals = []int{tIter} },
		func(p *api.Prog) { p.Funcs[0].Result = 99 },
		func(p *api.Prog) { p.Funcs[0].Code[0] = bad },
		func(p *api.Prog) { p.Funcs[0].Code[1] = bad },
		func(p *api.Prog) { p.Funcs[1].Locals = []int{99} },
		func(p *api.Prog) { p.Funcs[1].Code[0] = bad },
		func(p *api.Prog) { p.Funcs[1].Code[1] = bad },
		func(p *api.Prog) { p.Funcs[2].Params = 99 },
		func(p *api.Prog) { p.Funcs[2].Code[1] = bad },
	}
	places := [][2]int{{0, 0}, {1, 0}, {1, 1}, {1, 2}, {2, 0}, {2, 1}, {2, 2}, {3, 0}, {3, 2}}
	for set := range 1 << len(list) {
		p := within(nil)
		p.Funcs = nil
		for range 3 {
			p.Funcs = append(p.Funcs, api.Func{Code: []api.Instr{{Op: api.OpYield}, {Op: api.OpYield}, halt}})
		}
		first := -1
		for i := len(list) - 1; i >= 0; i-- {
			if set>>i&1 == 1 {
				list[i](&p)
				first = i
			}
		}
		if first < 0 {
			wantSound(t, "no fault", p)
		} else {
			wantFault(t, "several faults", p, places[first][0], places[first][1])
		}
	}
}

// P1, P19.1: any argument: each number of a program at the ends of numbers and beside its own value.
func TestCheckAnyNumbers(t *testing.T) {
	p := full()
	wantSound(t, "as it is", p)
	for _, n := range progs.Numbers(&p) {
		before := *n
		for _, other := range []int{math.MinInt, math.MinInt32, -2, -1, 0, 1, before - 1, before + 1, before + 2, 63, 64, 65, 1023, 1024, limit - 1, limit, limit + 1, math.MaxInt} {
			*n = other
			hold(t, p)
		}
		*n = before
	}
}
