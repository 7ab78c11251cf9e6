package maps_test

import (
	"fmt"
	"math"
	"reflect"
	"slices"
	"testing"

	"heddle/api"
	"heddle/cells"
	"heddle/maps"
	"heddle/memory"
)

// The types of the table that the tests take.
const (
	anInt = iota
	aStr
	aFloat
	aBool
	aPtr // to Ints
	anIface
	aPair  // a struct of an Int and a Str
	two    // a struct of two Ints
	floats // an array of two Floats
	texts  // an array of sixteen Strs
	ifaces // an array of sixteen interfaces
	intMap // from Ints to Ints
	strMap // from Strs to pairs
	floatMap
	boolMap
	ptrMap // from pointers to pointers
	ifaceMap
	pairMap
	twoMap
	floatsMap
	wideMap
	mapMap // from Ints to maps of Ints
	intIter
	single // a struct of one interface
	typeCount
)

func table() []api.Type {
	return []api.Type{
		anInt:     {Kind: api.KInt},
		aStr:      {Kind: api.KStr},
		aFloat:    {Kind: api.KFloat},
		aBool:     {Kind: api.KBool},
		aPtr:      {Kind: api.KPtr, Elem: anInt},
		anIface:   {Kind: api.KIface},
		aPair:     {Kind: api.KStruct, Fields: []int{anInt, aStr}},
		two:       {Kind: api.KStruct, Fields: []int{anInt, anInt}},
		floats:    {Kind: api.KArray, Elem: aFloat, Len: 2},
		texts:     {Kind: api.KArray, Elem: aStr, Len: 16},
		ifaces:    {Kind: api.KArray, Elem: anIface, Len: 16},
		intMap:    {Kind: api.KMap, Key: anInt, Elem: anInt},
		strMap:    {Kind: api.KMap, Key: aStr, Elem: aPair},
		floatMap:  {Kind: api.KMap, Key: aFloat, Elem: anInt},
		boolMap:   {Kind: api.KMap, Key: aBool, Elem: aStr},
		ptrMap:    {Kind: api.KMap, Key: aPtr, Elem: aPtr},
		ifaceMap:  {Kind: api.KMap, Key: anIface, Elem: anIface},
		pairMap:   {Kind: api.KMap, Key: aPair, Elem: aFloat},
		twoMap:    {Kind: api.KMap, Key: two, Elem: anInt},
		floatsMap: {Kind: api.KMap, Key: floats, Elem: aBool},
		wideMap:   {Kind: api.KMap, Key: texts, Elem: ifaces},
		mapMap:    {Kind: api.KMap, Key: anInt, Elem: intMap},
		intIter:   {Kind: api.KIter, Elem: intMap},
		single:    {Kind: api.KStruct, Fields: []int{anIface}},
	}
}

// mapTypes answers all types of maps.
func mapTypes() (list []int) {
	for typ, one := range table() {
		if one.Kind == api.KMap {
			list = append(list, typ)
		}
	}
	return list
}

func keyOf(typ int) int { return table()[typ].Key }

func elemOf(typ int) int { return table()[typ].Elem }

const (
	// never is a pace that is never come to.
	never   = math.MaxInt
	tagMap  = 2097152
	tagIter = 4194304
	tagStr  = 1048576
	// seed is taken where any one will do.
	seed = 7
	nan  = 0x7ff8000000000000
	// minus is the lesser zero.
	minus = 1 << 63
)

// num answers a value of so many cells, each with its number.
func num(n ...uint64) (v []api.Cell) {
	for _, one := range n {
		v = append(v, api.Cell{N: one})
	}
	return v
}

// text answers a value of so many cells, each with its text.
func text(s ...string) (v []api.Cell) {
	for _, one := range s {
		v = append(v, api.Cell{S: one})
	}
	return v
}

func pair(n uint64, s string) []api.Cell { return []api.Cell{{N: n}, {S: s}} }

// holding answers an interface that holds v of type t.
func holding(t int, v []api.Cell) []api.Cell { return []api.Cell{{T: t + 1, Box: v}} }

// filled answers a value of sixteen cells, the first of which are these.
func filled(v ...api.Cell) []api.Cell {
	return append(v, make([]api.Cell, 16-len(v))...)
}

// leaves answers the types of the cells of type i.
func leaves(i int) (list []int) {
	inner := table()[i].Fields
	if table()[i].Kind == api.KArray {
		inner = slices.Repeat([]int{table()[i].Elem}, table()[i].Len)
	}
	if inner == nil {
		return []int{i}
	}
	for _, one := range inner {
		list = append(list, leaves(one)...)
	}
	return list
}

// told answers a text that is the same of equal values, and whether one of them equals itself.
func told(i int, v []api.Cell) (s string, self bool) {
	self = true
	for at, leaf := range leaves(i) {
		c := v[at]
		switch table()[leaf].Kind {
		case api.KFloat:
			f := math.Float64frombits(c.N)
			self = self && f == f
			s += fmt.Sprintf("float %x, ", math.Float64bits(f+0))
		case api.KStr:
			s += fmt.Sprintf("%q, ", c.S)
		case api.KIface:
			s += fmt.Sprintf("holds %d (", c.T)
			if c.T > 0 {
				inner, ok := told(c.T-1, c.Box)
				s, self = s+inner, self && ok
			}
			s += "), "
		default:
			s += fmt.Sprintf("%d, ", c.N)
		}
	}
	return s, self
}

// namesIn answers the numbers at pointers of a value, boxes included.
func namesIn(i int, v []api.Cell) (list []int) {
	for at, leaf := range leaves(i) {
		switch c := v[at]; table()[leaf].Kind {
		case api.KPtr, api.KMap, api.KIter:
			if c.N > 0 {
				list = append(list, int(c.N))
			}
		case api.KIface:
			if c.T > 0 {
				list = append(list, namesIn(c.T-1, c.Box)...)
			}
		}
	}
	return list
}

func build(t *testing.T, pages, pace int) *memory.Memory {
	t.Helper()
	m, e := memory.New(pages, pace)
	if m == nil || e != api.OK {
		t.Fatalf("New(%d, %d) = %v, %d", pages, pace, m, e)
	}
	return m
}

// entry is an entry of a map as the chapter tells of it.
type entry struct {
	number   int
	key, val []api.Cell
	told     string
	self     bool
}

// book is a map and what has to be in it, gone through entry by entry.
type book struct {
	t         *testing.T
	m         *memory.Memory
	typ, addr int
	seed      uint64
	next      int
	list      []entry
	turns     []*turns
}

// turns is an iterator, and the numbers of the entries that it still has to give.
type turns struct {
	over *book
	addr int
	left map[int]bool
}

// made makes a map.
func made(t *testing.T, m *memory.Memory, typ int, roots ...int) *book {
	t.Helper()
	addr, e := maps.Make(m, table(), typ, roots)
	if e != api.OK {
		t.Fatalf("Make(%d): %d", typ, e)
	}
	return &book{t: t, m: m, typ: typ, addr: addr, seed: seed}
}

// find answers the place of the entry whose key equals this one, or -1.
func (b *book) find(key []api.Cell) int {
	what, self := told(keyOf(b.typ), key)
	return slices.IndexFunc(b.list, func(en entry) bool { return self && en.self && en.told == what })
}

// held answers the map and its iterators.
func (b *book) held() []int {
	list := []int{b.addr}
	for _, it := range b.turns {
		list = append(list, it.addr)
	}
	return list
}

// put puts an entry that has to find room.
func (b *book) put(key, val []api.Cell, roots ...int) int {
	b.t.Helper()
	e := b.tryPut(key, val, append(roots, b.held()...)...)
	if e != api.OK {
		b.t.Fatalf("Put(%d, %v, %v): %d", b.typ, key, val, e)
	}
	return b.find(key)
}

// tryPut puts an entry, and answers OK or ErrFull. The number has to be right.
func (b *book) tryPut(key, val []api.Cell, roots ...int) api.Errno {
	b.t.Helper()
	n, e := maps.Put(b.m, table(), b.typ, b.addr, key, val, b.seed, roots)
	if e != api.OK {
		if e != api.ErrFull || n != 0 {
			b.t.Fatalf("Put(%d, %v, %v) = %d, %d", b.typ, key, val, n, e)
		}
		return e
	}
	if at := b.find(key); at >= 0 {
		b.list[at].val = val
		b.wantNumber(n, b.list[at].number)
		return e
	}
	what, self := told(keyOf(b.typ), key)
	b.list = append(b.list, entry{b.next, key, val, what, self})
	b.wantNumber(n, b.next)
	b.next++
	return e
}

func (b *book) wantNumber(got, want int) {
	b.t.Helper()
	if got != want {
		b.t.Fatalf("number %d, want %d", got, want)
	}
}

// get looks for what a key has.
func (b *book) get(key []api.Cell) {
	b.t.Helper()
	want, there := make([]api.Cell, len(leaves(elemOf(b.typ)))), false
	if at := b.find(key); at >= 0 {
		want, there = b.list[at].val, true
	}
	val, ok, e := maps.Get(b.m, table(), b.typ, b.addr, key, b.seed)
	if e != api.OK || ok != there || !cells.Same(val, want) {
		b.t.Fatalf("Get(%d, %v) = %v, %t, %d, want %v, %t", b.typ, key, val, ok, e, want, there)
	}
}

// remove deletes a key.
func (b *book) remove(key []api.Cell) {
	b.t.Helper()
	at := b.find(key)
	ok, e := maps.Delete(b.m, table(), b.typ, b.addr, key, b.seed)
	if e != api.OK || ok != (at >= 0) {
		b.t.Fatalf("Delete(%d, %v) = %t, %d, want %t", b.typ, key, ok, e, at >= 0)
	}
	if at >= 0 {
		b.drop(b.list[at].number)
		b.list = slices.Delete(b.list, at, at+1)
	}
}

// drop tells the iterators of an entry that is gone.
func (b *book) drop(number int) {
	for _, it := range b.turns {
		delete(it.left, number)
	}
}

// clear clears the map.
func (b *book) clear() {
	b.t.Helper()
	if e := maps.Clear(b.m, table(), b.typ, b.addr); e != api.OK {
		b.t.Fatalf("Clear(%d): %d", b.typ, e)
	}
	for _, en := range b.list {
		b.drop(en.number)
	}
	b.list = nil
}

// check looks for the map's length and for all of its entries.
func (b *book) check() {
	b.t.Helper()
	if n, e := maps.Len(b.m, table(), b.typ, b.addr); n != len(b.list) || e != api.OK {
		b.t.Fatalf("Len(%d) = %d, %d, want %d", b.typ, n, e, len(b.list))
	}
	for _, en := range b.list {
		b.get(en.key)
	}
}

// iter makes an iterator that has to find room.
func (b *book) iter(draw uint64, roots ...int) *turns {
	b.t.Helper()
	it, e := b.tryIter(draw, append(roots, b.held()...)...)
	if e != api.OK {
		b.t.Fatalf("Iter(%d, %d): %d", b.typ, draw, e)
	}
	return it
}

// tryIter makes an iterator; the error is OK or ErrFull.
func (b *book) tryIter(draw uint64, roots ...int) (*turns, api.Errno) {
	b.t.Helper()
	addr, e := maps.Iter(b.m, table(), b.typ, b.addr, draw, roots)
	if e != api.OK {
		if e != api.ErrFull || addr != 0 {
			b.t.Fatalf("Iter(%d, %d) = %d, %d", b.typ, draw, addr, e)
		}
		return nil, e
	}
	it := &turns{over: b, addr: addr, left: map[int]bool{}}
	for _, en := range b.list {
		it.left[en.number] = true
	}
	b.turns = append(b.turns, it)
	return it, e
}

// step takes the next entry, which has to be one that is left, and answers its number; -1, if nothing comes.
func (it *turns) step() int {
	b := it.over
	b.t.Helper()
	number, key, val, e := maps.Next(b.m, table(), b.typ, it.addr)
	if e == api.ErrRange {
		if len(it.left) > 0 || number != 0 || len(key) > 0 || len(val) > 0 {
			b.t.Fatalf("Next(%d) = %d, %v, %v, ErrRange, but there are left: %v", b.typ, number, key, val, it.left)
		}
		return -1
	}
	if e != api.OK || !it.left[number] {
		b.t.Fatalf("Next(%d) = %d, %v, %v, %d, left: %v", b.typ, number, key, val, e, it.left)
	}
	delete(it.left, number)
	at := slices.IndexFunc(b.list, func(en entry) bool { return en.number == number })
	if en := b.list[at]; !cells.Same(en.key, key) || !cells.Same(en.val, val) {
		b.t.Fatalf("Next(%d) = %d, %v, %v, want %v, %v", b.typ, number, key, val, en.key, en.val)
	}
	return number
}

// rest takes all that still comes, and answers the numbers.
func (it *turns) rest() (list []int) {
	it.over.t.Helper()
	for n := it.step(); n >= 0; n = it.step() {
		list = append(list, n)
	}
	return list
}

// wordsAt answers all words of an object.
func wordsAt(m *memory.Memory, addr int) []uint64 {
	ptrs, _ := m.Ptrs(addr)
	out := make([]uint64, len(ptrs))
	for i := range out {
		out[i], _ = m.Get(addr, i)
	}
	return out
}

// objects answers the live objects.
func objects(m *memory.Memory) []api.Object {
	v, _ := m.View(nil)
	return v.Objects
}

// live answers the addresses of the live objects.
func live(m *memory.Memory) (out []int) {
	for _, o := range objects(m) {
		out = append(out, o.Addr)
	}
	return out
}

func wantLive(t *testing.T, m *memory.Memory, want ...int) {
	t.Helper()
	slices.Sort(want)
	if got := live(m); !slices.Equal(got, want) {
		t.Fatalf("live: %v, want %v", got, want)
	}
}

func collect(t *testing.T, m *memory.Memory, roots ...int) {
	t.Helper()
	if e := m.Collect(roots); e != api.OK {
		t.Fatalf("Collect(%v): %d", roots, e)
	}
}

// state is what can be seen of a memory.
type state struct {
	view  api.View
	words map[int][]uint64
	ptrs  map[int][]bool
	fits  []bool
	color map[int]int
}

func look(m *memory.Memory) state {
	v, _ := m.View(nil)
	s := state{view: v, words: map[int][]uint64{}, ptrs: map[int][]bool{}, color: map[int]int{}}
	for _, o := range v.Objects {
		s.ptrs[o.Addr], _ = m.Ptrs(o.Addr)
		s.words[o.Addr] = wordsAt(m, o.Addr)
	}
	for _, n := range []int{1, 2, 3, 4, 6, 8, 12, 16, 17, 32, 33, 64, 65, 512} {
		s.fits = append(s.fits, m.Fits(n))
	}
	for n := range m.Live() {
		s.color[n], _ = m.Color(n)
	}
	return s
}

// wantSame looks for a memory that has not changed.
func wantSame(t *testing.T, m *memory.Memory, before state) {
	t.Helper()
	if now := look(m); !reflect.DeepEqual(now, before) {
		t.Fatalf("the memory is\n%v, it was\n%v", now, before)
	}
}

func toSweep(m *memory.Memory) {
	for m.Phase() == api.Mark {
		m.Work(1)
	}
}

// draw gives numbers that look like chance, but are the same in each run.
type draw uint64

func (d *draw) next() uint64 {
	*d = *d*6364136223846793005 + 1442695040888963407
	x := uint64(*d)
	x = (x ^ x>>32) * 0x9E3779B97F4A7C15
	return x ^ x>>29
}

// below answers a number from 0 to n - 1.
func (d *draw) below(n int) int { return int(d.next() >> 1 % uint64(n)) }

func pick[T any](d *draw, list ...T) T { return list[d.below(len(list))] }

// unmix answers the number of which chapter 10's mix is x.
func unmix(x uint64) uint64 {
	x ^= x >> 32
	x *= inverse(0xBF58476D1CE4E5B9)
	x ^= x>>29 ^ x>>58
	x *= inverse(0x9E3779B97F4A7C15)
	return x ^ x>>32
}

// inverse answers the number that makes 1 of an odd one, times it.
func inverse(x uint64) uint64 {
	y := x
	for range 6 {
		y *= 2 - x*y
	}
	return y
}

// intWith answers the Int that has a hash.
func intWith(hash uint64) []api.Cell { return num(unmix(hash) ^ seed) }

// twoWith answers two Ints, the first of which is n, that have a hash together.
func twoWith(n, hash uint64) []api.Cell {
	return num(n, unmix(hash)^mix(n^seed))
}

func mix(x uint64) uint64 {
	x ^= x >> 32
	x *= 0x9E3779B97F4A7C15
	x ^= x >> 29
	x *= 0xBF58476D1CE4E5B9
	return x ^ x>>32
}
