package verify_test

import (
	"slices"
	"strings"
	"testing"

	"heddle/api"
	"heddle/code"
	"heddle/types"
	"heddle/verify"
)

const (
	limit   = 2147483647
	opCount = 41
)

// The types of the table that most tests have.
const (
	tBool = iota
	tInt
	tFloat
	tStr
	tIface
	tOther   // another Int
	tStruct  // of Int, Str, Other
	tArray   // two Ints
	tPtr     // to Int
	tPtrs    // to Ptr
	tToPart  // to Struct
	tToArray // to Array
	tMap     // from Str to Int
	tIter    // over Map
	tFlags   // a map from Bool to Bool
	tFlag    // over Flags
	tHolder  // a struct of Str and Map
	tToMap   // to Map
	tMaps    // two Maps
	tText    // another Str
	tYes     // another Bool
	tReal    // another Float
	typeCount
)

func table() []api.Type {
	return []api.Type{
		tBool: {Kind: api.KBool}, tInt: {Kind: api.KInt}, tFloat: {Kind: api.KFloat}, tStr: {Kind: api.KStr}, tIface: {Kind: api.KIface}, tOther: {Kind: api.KInt},
		tStruct: {Kind: api.KStruct, Fields: []int{tInt, tStr, tOther}}, tArray: {Kind: api.KArray, Elem: tInt, Len: 2},
		tPtr: {Kind: api.KPtr, Elem: tInt}, tPtrs: {Kind: api.KPtr, Elem: tPtr}, tToPart: {Kind: api.KPtr, Elem: tStruct}, tToArray: {Kind: api.KPtr, Elem: tArray},
		tMap: {Kind: api.KMap, Key: tStr, Elem: tInt}, tIter: {Kind: api.KIter, Elem: tMap}, tFlags: {Kind: api.KMap, Key: tBool, Elem: tBool}, tFlag: {Kind: api.KIter, Elem: tFlags},
		tHolder: {Kind: api.KStruct, Fields: []int{tStr, tMap}}, tToMap: {Kind: api.KPtr, Elem: tMap}, tMaps: {Kind: api.KArray, Elem: tMap, Len: 2},
		tText: {Kind: api.KStr}, tYes: {Kind: api.KBool}, tReal: {Kind: api.KFloat},
	}
}

var halt = api.Instr{Op: api.OpHalt}

// within answers a program of one function with the locals and the instructions handed in.
func within(locals []int, list ...api.Instr) api.Prog {
	return api.Prog{Types: table(), Funcs: []api.Func{{Locals: locals, Code: list}}}
}

// each answers a local of each type of the table, with the type's number.
func each() (locals []int) {
	for t := range typeCount {
		locals = append(locals, t)
	}
	return locals
}

func wantCheck(t *testing.T, what string, p api.Prog, fn, at int, want api.Errno) {
	t.Helper()
	if gotFn, gotAt, e := verify.Check(p); gotFn != fn || gotAt != at || e != want {
		t.Errorf("Check, %s: %d, %d, %d, want %d, %d, %d", what, gotFn, gotAt, e, fn, at, want)
	}
}

func wantSound(t *testing.T, what string, p api.Prog) {
	t.Helper()
	wantCheck(t, what, p, 0, 0, api.OK)
}

func wantFault(t *testing.T, what string, p api.Prog, fn, at int) {
	t.Helper()
	wantCheck(t, what, p, fn, at, api.ErrForm)
	if verify.Plain(p) {
		t.Errorf("Plain, %s: a program that is not sound", what)
	}
}

func wantPlain(t *testing.T, what string, p api.Prog, want bool) {
	t.Helper()
	wantSound(t, what, p)
	if verify.Plain(p) != want {
		t.Errorf("Plain, %s: %v", what, !want)
	}
}

// asked has what has to be so of the operations' instructions. A small letter is the type of the local with that field's number, and elem, key, B and C what is told of it from there on: its Elem, its Key, its field of that number.
var asked = map[int]string{
	api.OpInt:       "a Int",
	api.OpFloat:     "a Float",
	api.OpBool:      "a Bool, N bit",
	api.OpStr:       "a Str, B string",
	api.OpMove:      "a = b, a not Iter",
	api.OpEq:        "a Bool, b = c, b compared",
	api.OpNot:       "a Bool, b Bool",
	api.OpConcat:    "a Str, b Str, c Str",
	api.OpSlice:     "a Str, b Str, c Int, d Int",
	api.OpLen:       "a Int, b Str",
	api.OpByte:      "a Int, c Int, b Str",
	api.OpNew:       "a Ptr",
	api.OpLoad:      "b Ptr, b.elem = a",
	api.OpStore:     "a Ptr, a.elem = b",
	api.OpGetField:  "b Ptr, b.elem Struct, b.elem.C = a",
	api.OpSetField:  "a Ptr, a.elem Struct, a.elem.B = c",
	api.OpGetElem:   "b Ptr, b.elem Array, c Int, b.elem.elem = a",
	api.OpSetElem:   "a Ptr, a.elem Array, b Int, a.elem.elem = c",
	api.OpPart:      "b Struct, b.C = a",
	api.OpPut:       "a Struct, a.B = c",
	api.OpBox:       "a Iface, b not Iface, b not Iter",
	api.OpUnbox:     "b Iface, a not Iface, a not Iter",
	api.OpIs:        "a Bool, b Iface, C not Iface, C not Iter",
	api.OpMake:      "a Map",
	api.OpClear:     "a Map",
	api.OpCount:     "a Int, b Map",
	api.OpGet:       "b Map, b.elem = a, b.key = c, d Bool",
	api.OpSet:       "a Map, a.key = b, a.elem = c",
	api.OpDelete:    "a Map, a.key = b",
	api.OpIter:      "a Iter, a.elem = b",
	api.OpNext:      "a Iter, a.elem.key = b, a.elem.elem = c, D instruction",
	api.OpJump:      "A instruction",
	api.OpIf:        "a Bool, B instruction",
	api.OpGlobal:    "B global = a",
	api.OpSetGlobal: "A global = b",
	api.OpOut:       "a not Iter",
	api.OpHalt:      "",
	api.OpYield:     "",
}

// ways has what has to be so of the ways of OpArith.
func ways(d int) string {
	switch d {
	case 1, 2, 3, 4, 5, 6, 7, 8, 9, 10:
		return "a Int, b Int, c Int"
	case 11:
		return "a Bool, b Int, c Int"
	case 12, 13, 14, 15:
		return "a Float, b Float, c Float"
	case 16:
		return "a Bool, b Float, c Float"
	case 17:
		return "a Bool, b Str, c Str"
	case 18, 19:
		return "a Bool, b Bool, c Bool"
	}
	return "no way"
}

var kinds = map[string]int{"Bool": 1, "Int": 2, "Float": 3, "Str": 4, "Ptr": 5, "Map": 6, "Iface": 7, "Struct": 8, "Array": 9, "Iter": 10}

// model asks what the chapter's words ask, of one function of a program that is sound outside its functions.
type model struct {
	p api.Prog
	f api.Func
}

// numberOf answers the field with that letter.
func numberOf(in api.Instr, letter byte) int {
	switch letter {
	case 'a', 'A':
		return in.A
	case 'b', 'B':
		return in.B
	case 'c', 'C':
		return in.C
	}
	return in.D
}

// place answers the type that a path leads to.
func (m model) place(in api.Instr, path string) (t int, ok bool) {
	number := numberOf(in, path[0])
	if path[0] < 'a' {
		return number, number >= 0 && number < len(m.p.Types)
	}
	if number >= len(m.f.Locals) {
		return 0, false
	}
	t = m.f.Locals[number]
	for _, step := range strings.Split(path, ".")[1:] {
		one := m.p.Types[t]
		switch {
		case step == "elem":
			t = one.Elem
		case step == "key":
			t = one.Key
		case numberOf(in, step[0]) < len(one.Fields):
			t = one.Fields[numberOf(in, step[0])]
		default:
			return 0, false
		}
	}
	return t, true
}

func (m model) clause(in api.Instr, words []string) bool {
	switch last := words[len(words)-1]; {
	case last == "bit":
		return in.N == 0 || in.N == 1
	case last == "string":
		return in.B < len(m.p.Strs)
	case last == "instruction":
		return numberOf(in, words[0][0]) < len(m.f.Code)
	case words[1] == "global":
		n := numberOf(in, words[0][0])
		t, ok := m.place(in, last)
		return n < len(m.p.Globals) && ok && t == m.p.Globals[n]
	case last == "way":
		return false
	}
	t, ok := m.place(in, words[0])
	switch {
	case !ok:
		return false
	case words[1] == "=":
		u, ok := m.place(in, words[2])
		return ok && t == u
	case words[1] == "not":
		return m.p.Types[t].Kind != kinds[words[2]]
	case words[1] == "compared":
		compared, e := types.Comparable(m.p.Types, t)
		return compared && e == api.OK
	}
	return m.p.Types[t].Kind == kinds[words[1]]
}

// returns tells whether a field is a local and one of the type that result is.
func (m model) returns(field, result int) bool {
	return field >= 1 && field <= len(m.f.Locals) && m.f.Locals[field-1]+1 == result
}

func (m model) call(in api.Instr) bool {
	if in.B >= len(m.p.Funcs) {
		return false
	}
	called := m.p.Funcs[in.B]
	if in.A != 0 && !m.returns(in.A, called.Result) {
		return false
	}
	var args, params []int
	for _, n := range in.Args {
		if n >= len(m.f.Locals) {
			return false
		}
		args = append(args, m.f.Locals[n])
	}
	for i := range min(called.Params, len(called.Locals)+1) {
		if i == len(called.Locals) {
			return false
		}
		params = append(params, called.Locals[i])
	}
	return slices.Equal(args, params)
}

// sound tells whether an instruction is.
func (m model) sound(in api.Instr) bool {
	rule := asked[in.Op]
	switch in.Op {
	case api.OpCall:
		return m.call(in)
	case api.OpRet:
		return in.A == 0 && m.f.Result == 0 || m.returns(in.A, m.f.Result)
	case api.OpArith:
		rule = ways(in.D)
	}
	for _, clause := range strings.Split(rule, ", ") {
		if clause != "" && !m.clause(in, strings.Split(clause, " ")) {
			return false
		}
	}
	return true
}

// value tells whether t is a type and no KIter.
func value(p api.Prog, t int) bool {
	return t >= 0 && t < len(p.Types) && p.Types[t].Kind != api.KIter
}

func (m model) head() bool {
	f := m.f
	if f.Params > len(f.Locals) || len(f.Locals) > 64 || len(f.Code) == 0 || len(f.Code) > 1024 {
		return false
	}
	for i, t := range f.Locals {
		if t >= len(m.p.Types) || i < f.Params && !value(m.p, t) {
			return false
		}
	}
	last := f.Code[len(f.Code)-1].Op
	return (f.Result == 0 || value(m.p, f.Result-1)) && (last == 33 || last == 36 || last == 40)
}

func outside(p api.Prog) bool {
	if _, e := code.Encode(p); e == api.ErrForm || types.Check(p.Types) != api.OK {
		return false
	}
	for _, s := range p.Strs {
		if len(s) > 4096 {
			return false
		}
	}
	for _, t := range p.Globals {
		if !value(p, t) {
			return false
		}
	}
	return len(p.Strs) <= 64 && len(p.Globals) <= 64 && len(p.Funcs) >= 1 && len(p.Funcs) <= 64 && p.Funcs[0].Params == 0
}

// check answers what Check has to.
func check(p api.Prog) (fn, at int, e api.Errno) {
	if !outside(p) {
		return 0, 0, api.ErrForm
	}
	for i, f := range p.Funcs {
		m := model{p, f}
		if !m.head() {
			return i + 1, 0, api.ErrForm
		}
		for j, in := range f.Code {
			if !m.sound(in) {
				return i + 1, j + 1, api.ErrForm
			}
		}
	}
	return 0, 0, api.OK
}

// plain answers what Plain has to. It looks at who may go on at each instruction of a loop.
func plain(p api.Prog) bool {
	if _, _, e := check(p); e != api.OK {
		return false
	}
	for _, f := range p.Funcs {
		from := comers(f.Code)
		at := func(i int) api.Instr {
			if i < 0 || i >= len(f.Code) {
				return api.Instr{}
			}
			return f.Code[i]
		}
		for i, in := range f.Code {
			if in.Op != api.OpNext {
				continue
			}
			ops := []int{at(i - 1).Op, at(i + 1).Op, at(i + 2).Op, at(i + 3).Op}
			if !slices.Equal(ops, []int{31, 39, 39, 33}) || at(i-1).A != in.A || at(i+1).A != in.B || at(i+2).A != in.C || in.B == in.C || in.D != i+4 {
				return false
			}
			if !slices.Equal(from[i], []int{i - 1, i + 3}) || !slices.Equal(from[i+1], []int{i}) || !slices.Equal(from[i+2], []int{i + 1}) || !slices.Equal(from[i+3], []int{i + 2}) {
				return false
			}
		}
	}
	return true
}

// comers answers, for each instruction of a sound function, the numbers of those that may go on there, rising.
func comers(list []api.Instr) [][]int {
	from := make([][]int, len(list)+1)
	for i, in := range list {
		if in.Op != api.OpJump && in.Op != api.OpRet && in.Op != api.OpHalt {
			from[i+1] = append(from[i+1], i)
		}
		switch in.Op {
		case api.OpJump:
			from[in.A] = append(from[in.A], i)
		case api.OpIf:
			from[in.B] = append(from[in.B], i)
		case api.OpNext:
			from[in.D] = append(from[in.D], i)
		}
	}
	for i := range from {
		slices.Sort(from[i])
	}
	return from
}

// hold holds Check and Plain against the model.
func hold(t *testing.T, p api.Prog) (fn, at int, e api.Errno) {
	t.Helper()
	fn, at, e = check(p)
	if gotFn, gotAt, got := verify.Check(p); gotFn != fn || gotAt != at || got != e {
		t.Errorf("Check(%v) = %d, %d, %d, want %d, %d, %d", p, gotFn, gotAt, got, fn, at, e)
	}
	if want := plain(p); verify.Plain(p) != want {
		t.Errorf("Plain(%v) = %v", p, !want)
	}
	return fn, at, e
}
