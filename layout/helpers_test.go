package layout_test

import (
	"encoding/binary"
	"math"
	"reflect"
	"slices"
	"strings"
	"testing"

	"heddle/api"
	"heddle/cells"
	"heddle/layout"
	"heddle/memory"
)

// The types of the table that the tests take: chapter 2's, and others behind them.
const (
	anInt = iota
	aStr
	aPair // a struct of an Int and a Str
	aPtr  // to itself
	aMap  // from pairs to pointers
	pairs // an array of two pairs
	anIter
	anIface
	aFloat
	aBool
	toPair
	link    // a struct of two interfaces
	single  // an array of one interface
	sixteen // an array of sixteen interfaces
	mixed   // a struct of one of each kind but KIter
	texts   // an array of sixteen texts
	names   // a struct of a pointer, a text, a map and an interface
	wide    // an array of sixteen Ints
	typeCount
)

func table() []api.Type {
	return []api.Type{
		anInt:   {Kind: api.KInt},
		aStr:    {Kind: api.KStr},
		aPair:   {Kind: api.KStruct, Fields: []int{anInt, aStr}},
		aPtr:    {Kind: api.KPtr, Elem: aPtr},
		aMap:    {Kind: api.KMap, Key: aPair, Elem: aPtr},
		pairs:   {Kind: api.KArray, Elem: aPair, Len: 2},
		anIter:  {Kind: api.KIter, Elem: aMap},
		anIface: {Kind: api.KIface},
		aFloat:  {Kind: api.KFloat},
		aBool:   {Kind: api.KBool},
		toPair:  {Kind: api.KPtr, Elem: aPair},
		link:    {Kind: api.KStruct, Fields: []int{anIface, anIface}},
		single:  {Kind: api.KArray, Elem: anIface, Len: 1},
		sixteen: {Kind: api.KArray, Elem: anIface, Len: 16},
		mixed:   {Kind: api.KStruct, Fields: []int{aBool, aStr, anInt, aPtr, aFloat, anIface, pairs, aMap, single}},
		texts:   {Kind: api.KArray, Elem: aStr, Len: 16},
		names:   {Kind: api.KStruct, Fields: []int{aPtr, aStr, aMap, anIface}},
		wide:    {Kind: api.KArray, Elem: anInt, Len: 16},
	}
}

// shapes tells which words of each type are pointers, written out: p stands for a pointer.
var shapes = [typeCount]string{
	anInt: "-", aStr: "p-", aPair: "-p-", aPtr: "p", aMap: "p", pairs: "-p--p-", anIter: "p", anIface: "-p", aFloat: "-", aBool: "-",
	toPair: "p", link: "-p-p", single: "-p", sixteen: strings.Repeat("-p", 16), mixed: "-" + "p-" + "-" + "p" + "-" + "-p" + "-p--p-" + "p" + "-p",
	texts: strings.Repeat("p-", 16), names: "p" + "p-" + "p" + "-p", wide: strings.Repeat("-", 16),
}

// leaves answers the types of the cells of type i.
func leaves(i int) (list []int) {
	inner := table()[i].Fields
	if table()[i].Kind == api.KArray {
		inner = slices.Repeat([]int{table()[i].Elem}, table()[i].Len)
	}
	if inner == nil {
		return []int{i}
	}
	for _, one := range inner {
		list = append(list, leaves(one)...)
	}
	return list
}

const (
	// never is a pace that is never come to.
	never = math.MaxInt
	// strTag is the tag of strings.
	strTag = 1048576
)

// num answers a value of so many cells, each with its number.
func num(n ...uint64) (v []api.Cell) {
	for _, one := range n {
		v = append(v, api.Cell{N: one})
	}
	return v
}

// text answers a value of so many cells, each with its text.
func text(s ...string) (v []api.Cell) {
	for _, one := range s {
		v = append(v, api.Cell{S: one})
	}
	return v
}

func pair(n uint64, s string) []api.Cell { return []api.Cell{{N: n}, {S: s}} }

// holding answers an interface that holds v of type t.
func holding(t int, v []api.Cell) []api.Cell { return []api.Cell{{T: t + 1, Box: v}} }

// chain answers an interface of that size: each box in it holds one interface more.
func chain(size int) []api.Cell {
	v := num(0)
	for range size - 1 {
		v = holding(single, v)
	}
	return v
}

// shape writes out which words are pointers: p stands for a pointer.
func shape(s string) []bool {
	out := make([]bool, len(s))
	for i := range s {
		out[i] = s[i] == 'p'
	}
	return out
}

func build(t *testing.T, pages, pace int) *memory.Memory {
	t.Helper()
	m, e := memory.New(pages, pace)
	if m == nil || e != api.OK {
		t.Fatalf("New(%d, %d) = %v, %d", pages, pace, m, e)
	}
	return m
}

// object makes an object by hand, with what its words hold.
func object(t *testing.T, m *memory.Memory, form string, tag int, words ...uint64) int {
	t.Helper()
	addr, e := m.Alloc(shape(form), tag, nil)
	if e != api.OK {
		t.Fatalf("Alloc(%s, %d): %d", form, tag, e)
	}
	put(t, m, addr, words...)
	return addr
}

// put writes the words of an object, from the first one on.
func put(t *testing.T, m *memory.Memory, addr int, words ...uint64) {
	t.Helper()
	for i, w := range words {
		if e := m.Set(addr, i, w); e != api.OK {
			t.Fatalf("Set(%d, %d, %d): %d", addr, i, w, e)
		}
	}
}

// wordsAt answers all words of an object.
func wordsAt(m *memory.Memory, addr int) []uint64 {
	ptrs, _ := m.Ptrs(addr)
	out := make([]uint64, len(ptrs))
	for i := range out {
		out[i], _ = m.Get(addr, i)
	}
	return out
}

func wantObject(t *testing.T, m *memory.Memory, addr, tag int, form string, words ...uint64) {
	t.Helper()
	info, e := m.Info(addr)
	ptrs, _ := m.Ptrs(addr)
	if e != api.OK || info.Tag != tag || info.Size != 8*len(words) || !slices.Equal(ptrs, shape(form)) {
		t.Fatalf("the object at %d: %v, %v, %d", addr, info, ptrs, e)
	}
	if got := wordsAt(m, addr); !slices.Equal(got, words) {
		t.Fatalf("the words at %d: %#x, want %#x", addr, got, words)
	}
}

// live answers the addresses of the live objects.
func live(m *memory.Memory) (out []int) {
	v, _ := m.View(nil)
	for _, o := range v.Objects {
		out = append(out, o.Addr)
	}
	return out
}

func wantLive(t *testing.T, m *memory.Memory, want ...int) {
	t.Helper()
	if got := live(m); !slices.Equal(got, want) {
		t.Fatalf("live: %v, want %v", got, want)
	}
}

// state is what can be seen of a memory.
type state struct {
	view  api.View
	words [][]uint64
	ptrs  [][]bool
	fits  []bool
	color []int
}

func look(m *memory.Memory) state {
	v, _ := m.View(nil)
	s := state{view: v}
	for _, o := range v.Objects {
		p, _ := m.Ptrs(o.Addr)
		s.words, s.ptrs = append(s.words, wordsAt(m, o.Addr)), append(s.ptrs, p)
	}
	for _, n := range []int{1, 2, 3, 4, 6, 8, 12, 16, 17, 32, 33, 64, 65, 512} {
		s.fits = append(s.fits, m.Fits(n))
	}
	for n := range m.Live() {
		c, _ := m.Color(n)
		s.color = append(s.color, c)
	}
	return s
}

// wantSame looks for a memory that has not changed.
func wantSame(t *testing.T, m *memory.Memory, before state) {
	t.Helper()
	if now := look(m); !reflect.DeepEqual(now, before) {
		t.Fatalf("the memory is\n%v, it was\n%v", now, before)
	}
}

func toSweep(m *memory.Memory) {
	for m.Phase() == api.Mark {
		m.Work(1)
	}
}

func toIdle(m *memory.Memory) { m.Work(math.MaxInt) }

// reader tells values in words by the chapter's sentences. What is not sound leaves by a panic.
type reader struct {
	memory  *memory.Memory
	objects map[int]api.Object
	cells   int
	made    []int // the objects of strings and boxes that were read
}

type unsound struct{}

func demand(ok bool) {
	if !ok {
		panic(unsound{})
	}
}

// told answers the value in words, the addresses of its strings and boxes, and whether they are sound.
func told(m *memory.Memory, t int, words []uint64) (v []api.Cell, made []int, ok bool) {
	view, _ := m.View(nil)
	r := reader{memory: m, objects: map[int]api.Object{}}
	for _, o := range view.Objects {
		r.objects[o.Addr] = o
	}
	defer func() {
		if fault := recover(); fault != nil {
			_ = fault.(unsound)
			v, made, ok = nil, nil, false
		}
	}()
	v = r.value(t, words)
	return v, r.made, cells.Size(v) <= api.MaxCells
}

func (r *reader) value(t int, words []uint64) (v []api.Cell) {
	demand(len(words) == len(shapes[t]))
	list := leaves(t)
	r.cells += len(list)
	demand(r.cells <= 2*api.MaxCells)
	for _, leaf := range list {
		own := words[:len(shapes[leaf])]
		words = words[len(own):]
		switch table()[leaf].Kind {
		case api.KStr:
			v = append(v, api.Cell{S: r.text(own[0], own[1])})
		case api.KIface:
			v = append(v, r.iface(own[0], own[1]))
		default:
			demand(leaf != aBool || own[0] < 2)
			demand(shapes[leaf] != "p" || own[0] == 0 || r.objects[int(own[0])].Addr > 0)
			v = append(v, api.Cell{N: own[0]})
		}
	}
	return v
}

// part answers the words of an object that has to be of a tag and a shape.
func (r *reader) part(addr uint64, tag int, form string) []uint64 {
	o, ok := r.objects[int(addr)]
	demand(ok && o.Tag == tag && o.Size == 8*len(form))
	ptrs, _ := r.memory.Ptrs(o.Addr)
	demand(slices.Equal(ptrs, shape(form)))
	r.made = append(r.made, o.Addr)
	return wordsAt(r.memory, o.Addr)
}

func (r *reader) text(addr, length uint64) string {
	if addr == 0 || length == 0 {
		demand(addr == length)
		return ""
	}
	demand(length <= 4096)
	var b []byte
	for _, w := range r.part(addr, strTag, strings.Repeat("-", int(length+7)/8)) {
		b = binary.LittleEndian.AppendUint64(b, w)
	}
	demand(strings.Trim(string(b[length:]), "\x00") == "")
	return string(b[:length])
}

func (r *reader) iface(number, addr uint64) api.Cell {
	if number == 0 {
		demand(addr == 0)
		return api.Cell{}
	}
	demand(number <= typeCount)
	t := int(number) - 1
	demand(t != anIface && t != anIter)
	return api.Cell{T: t + 1, Box: r.value(t, r.part(addr, t, shapes[t]))}
}

// parts answers how many objects a value asks for: one for each text but the empty one, and one for each box.
func parts(v []api.Cell) (n int) {
	for _, c := range v {
		if c.S != "" || c.T != 0 {
			n++
		}
		n += parts(c.Box)
	}
	return n
}

// saved saves a value and looks at all that came of it.
func saved(t *testing.T, m *memory.Memory, typ int, v []api.Cell, roots ...int) []uint64 {
	t.Helper()
	words, e := layout.Save(m, table(), typ, v, roots)
	if e != api.OK {
		t.Fatalf("Save(%d, %v): %d", typ, v, e)
	}
	wantTold(t, m, typ, v, words)
	return words
}

// wantTold looks for words that tell a value, with an object of its own for each text and box, and for the same by Load.
func wantTold(t *testing.T, m *memory.Memory, typ int, v []api.Cell, words []uint64) {
	t.Helper()
	w, made, ok := told(m, typ, words)
	if !ok || !cells.Same(v, w) {
		t.Fatalf("the words %#x of %d tell %v, %t, want %v", words, typ, w, ok, v)
	}
	slices.Sort(made)
	if len(made) != parts(v) || len(slices.Compact(made)) != len(made) {
		t.Fatalf("the objects of %v: %v", v, made)
	}
	wantLoad(t, m, typ, words, v)
}

func wantLoad(t *testing.T, m *memory.Memory, typ int, words []uint64, v []api.Cell) {
	t.Helper()
	got, e := layout.Load(m, table(), typ, words)
	if e != api.OK || !cells.Same(got, v) || cells.Check(table(), typ, got) != api.OK {
		t.Fatalf("Load(%d, %#x) = %v, %d, want %v", typ, words, got, e, v)
	}
}

func wantNoLoad(t *testing.T, m *memory.Memory, typ int, words ...uint64) {
	t.Helper()
	if v, e := layout.Load(m, table(), typ, words); len(v) != 0 || e != api.ErrForm {
		t.Fatalf("Load(%d, %#x) = %v, %d, want ErrForm", typ, words, v, e)
	}
	if _, _, ok := told(m, typ, words); ok {
		t.Fatalf("the words %#x are sound for %d", words, typ)
	}
}

func wantNoSave(t *testing.T, m *memory.Memory, typ int, v []api.Cell, roots []int, want api.Errno) {
	t.Helper()
	if words, e := layout.Save(m, table(), typ, v, roots); len(words) != 0 || e != want {
		t.Fatalf("Save(%d, %v, %v) = %v, %d, want %d", typ, v, roots, words, e, want)
	}
}

func wantFetch(t *testing.T, m *memory.Memory, typ, addr int, v []api.Cell) {
	t.Helper()
	if got, e := layout.Fetch(m, table(), typ, addr); e != api.OK || !cells.Same(got, v) {
		t.Fatalf("Fetch(%d, %d) = %v, %d, want %v", typ, addr, got, e, v)
	}
}

func wantNoFetch(t *testing.T, m *memory.Memory, typ, addr int, want api.Errno) {
	t.Helper()
	if v, e := layout.Fetch(m, table(), typ, addr); len(v) != 0 || e != want {
		t.Fatalf("Fetch(%d, %d) = %v, %d, want %d", typ, addr, v, e, want)
	}
}

func wantKeep(t *testing.T, m *memory.Memory, typ, addr int, v []api.Cell, roots []int, want api.Errno) {
	t.Helper()
	if e := layout.Keep(m, table(), typ, addr, v, roots); e != want {
		t.Fatalf("Keep(%d, %d, %v, %v) = %d, want %d", typ, addr, v, roots, e, want)
	}
}

func made(t *testing.T, m *memory.Memory, typ int, roots ...int) int {
	t.Helper()
	addr, e := layout.Make(m, table(), typ, roots)
	if e != api.OK {
		t.Fatalf("Make(%d): %d", typ, e)
	}
	return addr
}

// draw gives numbers that look like chance, but are the same in each run.
type draw uint64

func (d *draw) next() uint64 {
	*d = *d*6364136223846793005 + 1442695040888963407
	x := uint64(*d)
	x = (x ^ x>>32) * 0x9E3779B97F4A7C15
	return x ^ x>>29
}

// below answers a number from 0 to n - 1.
func (d *draw) below(n int) int { return int(d.next() >> 1 % uint64(n)) }

func pick[T any](d *draw, list ...T) T { return list[d.below(len(list))] }
