package code_test

import (
	"bytes"
	"encoding/binary"
	"math"
	"reflect"
	"slices"
	"strings"
	"testing"

	"heddle/api"
	"heddle/code"
	"heddle/progs"
)

const (
	limit    = 2147483647
	opCount  = 41
	kindsEnd = 10
)

// most is the highest number that is no long one, above one more, and longest the highest long one.
var (
	most    = []byte{0xff, 0xff, 0xff, 0xff, 7}
	above   = []byte{0x80, 0x80, 0x80, 0x80, 8}
	longest = []byte{0xff, 0xff, 0xff, 0xff, 0xff, 0xff, 0xff, 0xff, 0xff, 1}
)

// told has the operations by the letters of their fields, as the chapter has them.
var told = []struct {
	letters string
	ops     []int
}{
	{"AN", []int{api.OpInt, api.OpFloat, api.OpBool}},
	{"AB", []int{api.OpStr, api.OpMove, api.OpNot, api.OpLen, api.OpLoad, api.OpStore, api.OpBox, api.OpUnbox, api.OpDelete, api.OpCount, api.OpIter, api.OpIf, api.OpGlobal, api.OpSetGlobal}},
	{"ABC", []int{api.OpEq, api.OpConcat, api.OpByte, api.OpGetField, api.OpSetField, api.OpGetElem, api.OpSetElem, api.OpPart, api.OpPut, api.OpIs, api.OpSet}},
	{"ABCD", []int{api.OpArith, api.OpSlice, api.OpGet, api.OpNext}},
	{"A", []int{api.OpNew, api.OpMake, api.OpClear, api.OpJump, api.OpRet, api.OpOut}},
	{"ABG", []int{api.OpCall}},
	{"", []int{api.OpHalt, api.OpYield}},
}

// lettersOf answers the letters of an operation's fields.
func lettersOf(op int) string {
	for _, row := range told {
		if slices.Contains(row.ops, op) {
			return row.letters
		}
	}
	panic("no operation")
}

// full answers an instruction all of whose fields are there.
func full(op int) api.Instr {
	return progs.Full(op, lettersOf(op))
}

// fullBytes answers the bytes of full(op).
func fullBytes(op int) []byte {
	b := []byte{byte(op)}
	switch lettersOf(op) {
	case "AN":
		return append(b, 1, 0xac, 2)
	case "AB":
		return append(b, 1, 2)
	case "ABC":
		return append(b, 1, 2, 3)
	case "ABCD":
		return append(b, 1, 2, 3, 4)
	case "A":
		return append(b, 1)
	case "ABG":
		return append(b, 1, 2, 2, 6, 7)
	}
	return b
}

// within answers a program of one function with the instructions handed in.
func within(list ...api.Instr) api.Prog {
	return api.Prog{Funcs: []api.Func{{Code: list}}}
}

// sample answers a program with something of everything, which is not sound.
func sample() api.Prog {
	p := progs.Sample(lettersOf)
	p.Strs = append(p.Strs, strings.Repeat("long", 40))
	return p
}

// sampleBytes answers the bytes of the sample, written out.
func sampleBytes() []byte {
	b := join([]byte{11, 1, 2, 3, 4, 5, 200, 1, 6, 3, 1, 7, 8, 3, 1, 0xac, 2, 3, 9, 1, 5, 10, 5, 8, 0},
		[]byte{4, 0, 4, 'a', ' ', 'b', '\'', 3, 0, 0xff, 0x80, 160, 1}, bytes.Repeat([]byte("long"), 40),
		[]byte{3, 3, 0xac, 2}, most,
		[]byte{4, 2, 3, 1, 2, 0xb8, 23, 4, opCount})
	for op := 1; op <= opCount; op++ {
		b = append(b, fullBytes(op)...)
	}
	return join(b, []byte{0, 0, 0, 0}, most, []byte{0}, most, []byte{3, api.OpInt}, most, longest, []byte{api.OpCall, 0, 0, 0, api.OpHalt},
		[]byte{0, 1, 0, 0, 0})
}

// some answers programs of many shapes that can be written.
func some() []api.Prog {
	list := []api.Prog{
		{},
		{Types: []api.Type{}, Strs: []string{}, Globals: []int{}, Funcs: []api.Func{}},
		within(api.Instr{Op: api.OpHalt}),
		within(api.Instr{Op: api.OpHalt, Args: []int{}}),
		within(api.Instr{Op: api.OpCall, A: 5, B: 6, Args: []int{}}, api.Instr{Op: api.OpCall, Args: []int{0, limit, 0}}),
		{Types: []api.Type{{Kind: api.KInt, Fields: []int{}}}, Funcs: []api.Func{{Locals: []int{}, Code: []api.Instr{}}}},
		sample(),
	}
	for op := 1; op <= opCount; op++ {
		list = append(list, within(full(op)), within(api.Instr{Op: op}, full(op)))
	}
	for _, one := range sample().Types {
		list = append(list, api.Prog{Types: []api.Type{one}})
	}
	return list
}

func join(lists ...[]byte) []byte {
	return slices.Concat(lists...)
}

// alike holds programs against each other by the language's own means.
func alike(p, q api.Prog) bool {
	return reflect.DeepEqual(progs.Copy(p), progs.Copy(q))
}

func wantEncode(t *testing.T, p api.Prog, want []byte) {
	t.Helper()
	if b, e := code.Encode(p); !bytes.Equal(b, want) || e != api.OK {
		t.Errorf("Encode(%v) = % x, %d, want % x", p, b, e, want)
	}
}

func wantNoBytes(t *testing.T, what string, p api.Prog, want api.Errno) {
	t.Helper()
	if b, e := code.Encode(p); len(b) != 0 || e != want {
		t.Errorf("Encode, %s: %d bytes, %d, want none, %d", what, len(b), e, want)
	}
}

func wantDecode(t *testing.T, b []byte, want api.Prog) {
	t.Helper()
	if p, at, e := code.Decode(b); !alike(p, want) || at != 0 || e != api.OK {
		t.Errorf("Decode(% x) = %v, %d, %d, want %v", b, p, at, e, want)
	}
}

func wantFault(t *testing.T, b []byte, at int, want api.Errno) {
	t.Helper()
	p, gotAt, e := code.Decode(b)
	if !reflect.DeepEqual(p, api.Prog{}) || gotAt != at || e != want {
		t.Errorf("Decode(% x) = %v, %d, %d, want nothing, %d, %d", b[:min(len(b), 300)], p, gotAt, e, at, want)
	}
}

// wantBoth looks for one list of bytes of a program, there and back.
func wantBoth(t *testing.T, p api.Prog, b []byte) {
	t.Helper()
	wantEncode(t, p, b)
	wantDecode(t, b, p)
}

// model reads bytes by the chapter's words.
type model struct {
	bytes []byte
	at    int
}

// fault is the place at which the model stops.
type fault struct {
	at    int
	early bool // the bytes end there
}

func (m *model) number(low, high uint64) uint64 {
	n, size := binary.Uvarint(m.bytes[m.at:])
	if size == 0 {
		panic(fault{m.at, true})
	}
	if size < 0 || size > 1 && m.bytes[m.at+size-1] == 0 || n < low || n > high {
		panic(fault{m.at, false})
	}
	m.at += size
	return n
}

func (m *model) plain() int {
	return int(m.number(0, limit))
}

func (m *model) times(one func()) {
	for count := m.plain(); count > 0; count-- {
		one()
	}
}

func (m *model) list() (list []int) {
	m.times(func() { list = append(list, m.plain()) })
	return list
}

func (m *model) oneType() (one api.Type) {
	one.Kind = int(m.number(1, kindsEnd))
	switch one.Kind {
	case 5, 10:
		one.Elem = m.plain()
	case 6:
		one.Key = m.plain()
		one.Elem = m.plain()
	case 8:
		one.Fields = m.list()
	case 9:
		one.Elem = m.plain()
		one.Len = m.plain()
	}
	return one
}

func (m *model) text() string {
	begin := m.at
	length := m.plain()
	if length > len(m.bytes)-m.at {
		panic(fault{begin, true})
	}
	m.at += length
	return string(m.bytes[m.at-length : m.at])
}

func (m *model) instr() (in api.Instr) {
	in.Op = int(m.number(1, opCount))
	for _, letter := range lettersOf(in.Op) {
		switch letter {
		case 'N':
			in.N = m.number(0, math.MaxUint64)
		case 'G':
			in.Args = m.list()
		default:
			in = progs.WithField(in, letter, m.plain())
		}
	}
	return in
}

func (m *model) function() (f api.Func) {
	f.Params = m.plain()
	f.Locals = m.list()
	f.Result = m.plain()
	m.times(func() { f.Code = append(f.Code, m.instr()) })
	return f
}

// decode answers what Decode has to, of at most MaxBytes bytes. Where the bytes end too early, more of them may make it another fault, or none.
func decode(b []byte) (p api.Prog, at int, early bool, e api.Errno) {
	defer func() {
		if f, ok := recover().(fault); ok {
			p, at, early, e = api.Prog{}, f.at, f.early, api.ErrText
		}
	}()
	m := &model{bytes: b}
	m.times(func() { p.Types = append(p.Types, m.oneType()) })
	m.times(func() { p.Strs = append(p.Strs, m.text()) })
	p.Globals = m.list()
	m.times(func() { p.Funcs = append(p.Funcs, m.function()) })
	if m.at < len(b) {
		panic(fault{m.at, false})
	}
	return p, 0, false, api.OK
}

// holdDecode holds Decode against the model.
func holdDecode(t *testing.T, b []byte) (early bool, e api.Errno) {
	t.Helper()
	p, at, early, e := decode(b)
	if e == api.OK {
		wantDecode(t, b, p)
	} else {
		wantFault(t, b, at, e)
	}
	return early, e
}
