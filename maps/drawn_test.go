package maps_test

import (
	"slices"
	"strings"
	"testing"

	"heddle/api"
	"heddle/cells"
	"heddle/layout"
	"heddle/maps"
	"heddle/memory"
)

// value answers a sound value of type i that names some of the addresses; of few numbers and texts, so that many are equal.
func (d *draw) value(i, depth int, addrs []int) (v []api.Cell) {
	for _, leaf := range leaves(i) {
		v = append(v, d.cell(leaf, depth, addrs))
	}
	return v
}

func (d *draw) cell(leaf, depth int, addrs []int) api.Cell {
	switch table()[leaf].Kind {
	case api.KBool:
		return api.Cell{N: uint64(d.below(2))}
	case api.KInt:
		return api.Cell{N: uint64(d.below(40))}
	case api.KFloat:
		return api.Cell{N: pick[uint64](d, 0, minus, 1, 2, 3, nan, nan+1)}
	case api.KStr:
		return api.Cell{S: strings.Repeat("x", pick(d, 0, 1, 2, 3, 8, 9, d.below(40)))}
	case api.KIface:
		held := pick(d, anInt, aStr, aFloat, aPtr, aPair, two, floats, single)
		if depth == 0 || d.below(4) == 0 {
			return api.Cell{}
		}
		return api.Cell{T: held + 1, Box: d.value(held, depth-1, addrs)}
	}
	return api.Cell{N: uint64(pick(d, append([]int{0}, addrs...)...))}
}

// world is a memory with maps, iterators, and objects that hold Ints, and what has to be in it.
type world struct {
	draw
	t     *testing.T
	m     *memory.Memory
	books []*book           // all maps that can be reached
	ints  map[int]uint64    // the objects that can be reached, by their addresses
	held  map[*book]bool    // the maps that are held
	iters map[*turns]*turns // the iterators that are held
	full  int
}

// roots answers all that is held.
func (w *world) roots() (list []int) {
	for _, b := range w.books {
		if w.held[b] {
			list = append(list, b.addr)
		}
		for _, it := range b.turns {
			if w.iters[it] != nil {
				list = append(list, it.addr)
			}
		}
	}
	return append(list, 0)
}

// prune forgets what can't be reached.
func (w *world) prune() {
	todo := w.roots()
	for _, b := range w.books {
		for _, it := range b.turns {
			if w.iters[it] != nil {
				todo = append(todo, b.addr)
			}
		}
	}
	reached := map[int]bool{}
	for len(todo) > 0 {
		addr := todo[0]
		todo = todo[1:]
		if addr == 0 || reached[addr] {
			continue
		}
		reached[addr] = true
		for _, b := range w.books {
			if b.addr != addr {
				continue
			}
			for _, en := range b.list {
				todo = slices.Concat(todo, namesIn(keyOf(b.typ), en.key), namesIn(elemOf(b.typ), en.val))
			}
		}
	}
	w.books = slices.DeleteFunc(w.books, func(b *book) bool { return !reached[b.addr] })
	for addr := range w.ints {
		if !reached[addr] {
			delete(w.ints, addr)
		}
	}
	for _, b := range w.books {
		b.turns = slices.DeleteFunc(b.turns, func(it *turns) bool { return w.iters[it] == nil })
	}
}

// book answers a map that can be reached, if there is one.
func (w *world) book() *book {
	if len(w.books) == 0 {
		w.make()
	}
	if len(w.books) == 0 {
		return &book{t: w.t, m: w.m, typ: intMap, seed: seed}
	}
	return pick(&w.draw, w.books...)
}

func (w *world) make() {
	typ := pick(&w.draw, mapTypes()...)
	if typ == wideMap && w.below(4) > 0 {
		typ = mapMap
	}
	addr, e := maps.Make(w.m, table(), typ, w.roots())
	if w.ended(e) {
		b := &book{t: w.t, m: w.m, typ: typ, addr: addr, seed: w.next()}
		w.books = append(w.books, b)
		w.held[b] = true
	}
}

// names answers what a value of a type may name: for a map of maps the maps of Ints, else objects that hold Ints, one of which is new.
func (w *world) names(b *book) (list []int, ok bool) {
	if elemOf(b.typ) == intMap {
		for _, one := range w.books {
			if one.typ == intMap {
				list = append(list, one.addr)
			}
		}
		return list, true
	}
	if !slices.Contains([]int{ptrMap, ifaceMap, wideMap}, b.typ) {
		return nil, true
	}
	for addr := range w.ints {
		list = append(list, addr)
	}
	slices.Sort(list)
	addr, e := layout.Make(w.m, table(), anInt, w.roots())
	if !w.ended(e) {
		return nil, false
	}
	n := w.next()
	w.ints[addr] = n
	w.m.Set(addr, 0, n)
	return append(list, addr, addr), true
}

// put puts an entry; neither its map nor what it names is handed in unless it is held.
func (w *world) put() {
	b := w.book()
	names, ok := w.names(b)
	if ok && b.addr != 0 {
		w.ended(b.tryPut(w.value(keyOf(b.typ), 2, names), w.value(elemOf(b.typ), 2, names), w.roots()...))
	}
	w.prune()
}

func (w *world) remove() {
	b := w.book()
	if len(b.list) > 0 && w.below(4) > 0 {
		b.remove(pick(&w.draw, b.list...).key)
	} else {
		b.remove(w.value(keyOf(b.typ), 2, nil))
	}
	w.prune()
}

func (w *world) clear() {
	if w.below(6) == 0 {
		w.book().clear()
		w.prune()
	}
}

func (w *world) iter() {
	b := w.book()
	if b.addr == 0 {
		return
	}
	it, e := b.tryIter(w.next(), w.roots()...)
	if w.ended(e) {
		w.iters[it] = it
	}
}

// step takes some entries of an iterator.
func (w *world) step() {
	b := w.book()
	if len(b.turns) == 0 {
		w.iter()
		return
	}
	it := pick(&w.draw, b.turns...)
	for range 1 + w.below(5) {
		if it.step() < 0 && w.below(2) == 0 {
			delete(w.iters, it)
			break
		}
	}
	w.prune()
}

// drop lets a map, or all of its iterators, go; what is reached otherwise stays.
func (w *world) drop() {
	b := w.book()
	if w.below(2) == 0 {
		delete(w.held, b)
	} else {
		for _, it := range b.turns {
			delete(w.iters, it)
		}
	}
	w.prune()
}

func (w *world) collect() {
	switch w.below(4) {
	case 0:
		collect(w.t, w.m, w.roots()...)
	case 1:
		if w.m.Phase() == api.Idle {
			w.m.Begin(w.roots())
		}
	default:
		w.m.Work(w.below(60))
	}
}

// ended tells whether a call was done; if there was no room, some of what is held goes now and then.
func (w *world) ended(e api.Errno) bool {
	w.t.Helper()
	if e != api.OK && e != api.ErrFull {
		w.t.Fatalf("error %d", e)
	}
	if e == api.ErrFull {
		w.full++
		if w.below(3) == 0 {
			w.drop()
		}
	}
	return e == api.OK
}

// check looks for all that has to be there.
func (w *world) check() {
	w.t.Helper()
	for _, b := range w.books {
		b.check()
	}
	for addr, n := range w.ints {
		if v, e := layout.Fetch(w.m, table(), anInt, addr); e != api.OK || !cells.Same(v, num(n)) {
			w.t.Fatalf("the object at %d: %v, %d, want %d", addr, v, e, n)
		}
	}
}

// P17.1 to P17.5, P5: whatever is made, put, deleted, cleared, ranged over, dropped and collected, the maps hold what they have to, and the iterators give it.
func TestDrawnWorlds(t *testing.T) {
	cycles, full, entries := 0, 0, 0
	for n := range 40 {
		d := draw(n)
		w := &world{draw: d, t: t, m: build(t, pick(&d, 20, 40, 100, 400), pick(&d, 1, 60, 500, never)), ints: map[int]uint64{}, held: map[*book]bool{}, iters: map[*turns]*turns{}}
		for step := range 250 {
			pick(&w.draw, w.make, w.put, w.put, w.put, w.put, w.put, w.put, w.remove, w.clear, w.iter, w.step, w.step, w.step, w.collect, w.collect, w.drop)()
			if step%5 == 0 {
				w.check()
			}
		}
		for _, b := range w.books {
			entries += len(b.list)
			for _, it := range b.turns {
				it.rest()
			}
		}
		cycles, full = cycles+w.m.Cycles(), full+w.full
	}
	t.Logf("%d cycles, %d times full, %d entries", cycles, full, entries)
	if cycles < 500 || full < 100 || entries < 500 {
		t.Fatalf("%d cycles, %d times full, %d entries", cycles, full, entries)
	}
}

// P17.2 to P17.4, P5: one map, with iterators under way, through growth and loss; keys of few and of many hashes.
func TestDrawnMaps(t *testing.T) {
	keys := []func(d *draw) []api.Cell{
		func(d *draw) []api.Cell { return num(uint64(d.below(300)), 0) },
		func(d *draw) []api.Cell { n := uint64(d.below(300)); return twoWith(n, n&3) },
		func(d *draw) []api.Cell { n := uint64(d.below(100)); return twoWith(n, n<<58) },
		func(d *draw) []api.Cell { n := uint64(d.below(60)); return twoWith(n, 5) },
	}
	for n := range 40 {
		d := draw(500 + n)
		b := made(t, build(t, 300, pick(&d, 20, never)), twoMap)
		for range 500 {
			switch d.below(12) {
			case 0, 1, 2:
				b.remove(keys[n%4](&d))
			case 3:
				if len(b.turns) < 6 {
					b.iter(d.next())
				}
			case 4, 5, 6:
				if len(b.turns) > 0 {
					pick(&d, b.turns...).step()
				}
			case 7:
				if d.below(15) == 0 {
					b.clear()
				}
			case 8:
				if d.below(10) == 0 && len(b.turns) > 0 {
					b.turns[0].rest()
					b.turns = b.turns[1:]
				}
			default:
				b.put(keys[n%4](&d), num(d.next()))
			}
			b.m.Work(d.below(20))
		}
		b.check()
		for _, it := range b.turns {
			it.rest()
		}
	}
}
