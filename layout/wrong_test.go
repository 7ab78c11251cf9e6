package layout_test

import (
	"math"
	"slices"
	"testing"

	"heddle/api"
	"heddle/layout"
	"heddle/memory"
)

// badTables answers tables that are not sound.
func badTables() [][]api.Type {
	return [][]api.Type{
		{{}},
		{{Kind: 11}},
		{{Kind: api.KInt, Len: 1}},
		append(table(), api.Type{Kind: api.KPtr, Elem: typeCount + 1}),
		append(table(), api.Type{Kind: api.KStruct, Fields: []int{typeCount}}),
		append(table(), api.Type{Kind: api.KArray, Elem: wide, Len: 2}),
		append(table(), api.Type{Kind: api.KMap, Key: aMap, Elem: anInt}),
		slices.Repeat([]api.Type{{Kind: api.KInt}}, api.MaxTypes+1),
	}
}

// badTypes answers numbers of no type.
func badTypes() []int { return []int{math.MinInt, -1, typeCount, 64, math.MaxInt} }

// calls carries out all calls with a memory, with all else given, and answers their errors: Save, Load, Make, Fetch, Keep. It looks for zero values beside errors.
func calls(t *testing.T, m *memory.Memory, ts []api.Type, typ, addr int, v []api.Cell, words []uint64, roots []int) (list [5]api.Errno) {
	t.Helper()
	w, e := layout.Save(m, ts, typ, v, roots)
	c, f := layout.Load(m, ts, typ, words)
	n, g := layout.Make(m, ts, typ, roots)
	d, h := layout.Fetch(m, ts, typ, addr)
	k := layout.Keep(m, ts, typ, addr, v, roots)
	if e != api.OK && len(w) > 0 || f != api.OK && len(c) > 0 || g != api.OK && n != 0 || h != api.OK && len(d) > 0 {
		t.Fatalf("beside errors: %v, %v, %d, %v", w, c, n, d)
	}
	return [5]api.Errno{e, f, g, h, k}
}

func wantAll(t *testing.T, got [5]api.Errno, want ...api.Errno) {
	t.Helper()
	if !slices.Equal(got[:], want) {
		t.Fatalf("the errors are %d, want %d", got, want)
	}
}

func repeat(e api.Errno) []api.Errno { return slices.Repeat([]api.Errno{e}, 5) }

// All calls: ErrForm of the table stands first, then ErrArg of a nil memory and of what is no type, whatever else is wrong.
func TestTableAndTypeFirst(t *testing.T) {
	m := build(t, 16, never)
	a := object(t, m, "p", 7)
	before := look(m)
	for _, memory := range []*memory.Memory{m, nil} {
		for _, addr := range []int{0, a, a + 1} {
			for _, roots := range [][]int{nil, {a}, {8}} {
				for _, v := range [][]api.Cell{nil, num(0), num(5), text("x")} {
					for _, ts := range badTables() {
						for _, typ := range append(badTypes(), 0) {
							wantAll(t, calls(t, memory, ts, typ, addr, v, nil, roots), repeat(api.ErrForm)...)
						}
					}
					for _, typ := range badTypes() {
						wantAll(t, calls(t, memory, table(), typ, addr, v, nil, roots), repeat(api.ErrArg)...)
						wantAll(t, calls(t, memory, nil, typ, addr, v, nil, roots), repeat(api.ErrArg)...)
					}
					wantAll(t, calls(t, nil, table(), anIter, addr, v, nil, roots), repeat(api.ErrArg)...)
					wantAll(t, calls(t, nil, table(), anInt, addr, v, nil, roots), repeat(api.ErrArg)...)
				}
			}
		}
	}
	for _, ts := range badTables() {
		for _, typ := range append(badTypes(), 0) {
			if n, e := layout.Offset(ts, typ, 99); n != 0 || e != api.ErrForm {
				t.Fatalf("Offset: %d, %d", n, e)
			}
			wantNothing(t, ts, typ, []uint64{8}, api.ErrForm)
		}
	}
	for _, typ := range badTypes() {
		if n, e := layout.Offset(table(), typ, 99); n != 0 || e != api.ErrArg {
			t.Fatalf("Offset: %d, %d", n, e)
		}
		wantNothing(t, table(), typ, []uint64{8}, api.ErrArg)
		wantNothing(t, nil, typ, nil, api.ErrArg)
	}
	wantSame(t, m, before)
}

// The errors behind those, in the chapter's order: each time the first that was told last is mended.
func TestOrderOfErrors(t *testing.T) {
	for _, pages := range []int{1, 16} {
		m := build(t, pages, never)
		own := object(t, m, "p-", aStr)
		other := object(t, m, "p-", 50)
		full := api.OK
		if pages == 1 {
			full = api.ErrFull
		}
		bad, short := text("x"), []uint64{0}
		bad[0].N = 1
		// The value, the address and the roots are all wrong.
		wantAll(t, calls(t, m, table(), aStr, 0, bad, short, []int{8}), api.ErrForm, api.ErrForm, api.ErrNone, api.ErrNil, api.ErrForm)
		wantAll(t, calls(t, m, table(), anIter, 0, bad, nil, []int{8}), api.ErrForm, api.ErrForm, api.ErrKind, api.ErrNil, api.ErrForm)
		// The value is mended, but names nothing that is live.
		wild := num(8)
		wantAll(t, calls(t, m, table(), aPtr, 0, wild, []uint64{8}, []int{8}), api.ErrNone, api.ErrForm, api.ErrNone, api.ErrNil, api.ErrNil)
		wantAll(t, calls(t, m, table(), aPtr, 8, wild, []uint64{8}, []int{own, other}), api.ErrNone, api.ErrForm, full, api.ErrNone, api.ErrNone)
		wantAll(t, calls(t, m, table(), aPtr, other, wild, []uint64{0}, []int{own, other}), api.ErrNone, api.OK, full, api.ErrKind, api.ErrKind)
		// All but the room.
		good := text(page)
		wantAll(t, calls(t, m, table(), aStr, other, good, short, []int{8}), api.ErrNone, api.ErrForm, api.ErrNone, api.ErrKind, api.ErrKind)
		wantAll(t, calls(t, m, table(), aStr, own, good, []uint64{0, 0}, []int{8}), api.ErrNone, api.OK, api.ErrNone, api.OK, api.ErrNone)
		if e := m.Set(own, 1, 1); e != api.OK {
			t.Fatal(e)
		}
		wantAll(t, calls(t, m, table(), aStr, own, good, []uint64{0, 0}, []int{own, other}), full, api.OK, api.OK, api.ErrForm, full)
	}
}

// R1: an empty memory without pages, which nobody made, is one too.
func TestZeroMemory(t *testing.T) {
	m := &memory.Memory{}
	wantAll(t, calls(t, m, table(), anInt, 256, num(1), []uint64{1}, nil), api.OK, api.OK, api.ErrFull, api.ErrNone, api.ErrNone)
	wantAll(t, calls(t, m, table(), aStr, 0, text("x"), []uint64{256, 1}, []int{0}), api.ErrFull, api.ErrForm, api.ErrFull, api.ErrNil, api.ErrNil)
}

// R1: values of any kind, also such that hold themselves.
func TestAnyValue(t *testing.T) {
	m := build(t, 16, never)
	addr := made(t, m, anIface)
	self := holding(single, nil)
	self[0].Box = self
	before := look(m)
	for _, v := range [][]api.Cell{
		nil, {}, num(1), num(0, 0), text("x"), self, holding(anIface, num(0)), holding(anIter, num(0)), holding(typeCount, num(0)),
		holding(-2, num(0)), holding(math.MaxInt-1, num(0)), holding(anInt, nil), holding(aBool, num(2)), holding(aPtr, num(1<<31)), chain(api.MaxCells + 1),
	} {
		wantNoSave(t, m, anIface, v, nil, api.ErrForm)
		wantKeep(t, m, anIface, addr, v, nil, api.ErrForm)
		wantNoSave(t, m, single, v, []int{8}, api.ErrForm)
	}
	wantNoSave(t, m, aPtr, num(1<<31), nil, api.ErrForm)
	wantNoSave(t, m, aPtr, num(1<<32+uint64(addr)), nil, api.ErrForm)
	wantNoSave(t, m, aStr, text(string(make([]byte, api.MaxStr+1))), nil, api.ErrForm)
	wantSame(t, m, before)
}
