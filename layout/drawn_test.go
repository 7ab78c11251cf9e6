package layout_test

import (
	"maps"
	"slices"
	"strings"
	"testing"

	"heddle/api"
	"heddle/cells"
	"heddle/layout"
	"heddle/memory"
)

// value answers a sound value of type i that names some of the addresses.
func (d *draw) value(i int, addrs []int) []api.Cell {
	for depth := 3; ; depth-- {
		if v := d.cells(i, depth, addrs); cells.Size(v) <= api.MaxCells {
			return v
		}
	}
}

func (d *draw) cells(i, depth int, addrs []int) (v []api.Cell) {
	for _, leaf := range leaves(i) {
		v = append(v, d.cell(leaf, depth, addrs))
	}
	return v
}

func (d *draw) cell(leaf, depth int, addrs []int) api.Cell {
	switch table()[leaf].Kind {
	case api.KBool:
		return api.Cell{N: uint64(d.below(2))}
	case api.KInt, api.KFloat:
		return api.Cell{N: pick(d, 0, 1, 256, d.next())}
	case api.KStr:
		return api.Cell{S: d.text()}
	case api.KIface:
		held := pick(d, anInt, aStr, aPair, aPtr, aMap, pairs, aFloat, aBool, toPair, link, single, single, names, names, mixed)
		if depth == 0 || d.below(3) == 0 {
			return api.Cell{}
		}
		return api.Cell{T: held + 1, Box: d.cells(held, depth-1, addrs)}
	}
	return api.Cell{N: uint64(pick(d, append([]int{0}, addrs...)...))}
}

func (d *draw) text() string {
	n := pick(d, 0, 0, 1, 2, 7, 8, 9, 15, 16, 17, 30, 60)
	if d.below(30) == 0 {
		n = pick(d, 130, 250, 600)
	}
	return strings.Repeat(string([]byte{byte(d.below(256)), 'a', byte(d.below(256))}), 200)[:n]
}

// kept is a value of a type.
type kept struct {
	typ   int
	value []api.Cell
	words []uint64 // of a value that was saved
}

// world is a memory, and what has to be in it.
type world struct {
	draw
	t       *testing.T
	memory  *memory.Memory
	objects map[int]kept // by their addresses
	roots   []int        // those objects that are held
	saved   []kept
	full    int
}

// namesIn answers the numbers at pointers of a value, boxes included.
func namesIn(typ int, v []api.Cell) (list []int) {
	for i, leaf := range leaves(typ) {
		if c := v[i]; c.T > 0 {
			list = append(list, namesIn(c.T-1, c.Box)...)
		} else if shapes[leaf] == "p" && c.N > 0 {
			list = append(list, int(c.N))
		}
	}
	return list
}

// prune forgets the objects that can't be reached, and answers the addresses of the others, rising.
func (w *world) prune() []int {
	todo := slices.Clone(w.roots)
	for _, s := range w.saved {
		todo = append(todo, namesIn(s.typ, s.value)...)
	}
	reached := map[int]kept{}
	for len(todo) > 0 {
		addr := todo[0]
		todo = todo[1:]
		if _, ok := reached[addr]; !ok {
			reached[addr] = w.objects[addr]
			todo = append(todo, namesIn(w.objects[addr].typ, w.objects[addr].value)...)
		}
	}
	w.objects = reached
	return slices.Sorted(maps.Keys(reached))
}

// held answers all that is held: objects, and what the words of saved values name.
func (w *world) held() []int {
	list := append(slices.Clone(w.roots), 0)
	for _, s := range w.saved {
		seq, _ := layout.Named(table(), s.typ, s.words)
		list = slices.AppendSeq(list, seq)
	}
	return list
}

// drop lets some of what is held go.
func (w *world) drop(n int) {
	for range n {
		if len(w.roots) > 0 {
			at := w.below(len(w.roots))
			w.roots = slices.Delete(w.roots, at, at+1)
		}
		if len(w.saved) > 0 {
			at := w.below(len(w.saved))
			w.saved = slices.Delete(w.saved, at, at+1)
		}
	}
	w.prune()
}

func (w *world) make() {
	typ := pick(&w.draw, anInt, aStr, aPair, aPtr, aMap, pairs, anIface, link, single, mixed, names)
	addr, e := layout.Make(w.memory, table(), typ, w.held())
	if w.ended(e) {
		w.objects[addr] = kept{typ: typ, value: make([]api.Cell, len(leaves(typ)))}
		w.roots = append(w.roots, addr)
	}
}

// save saves a value that names what is held no more.
func (w *world) save() {
	typ := w.below(typeCount)
	v := w.value(typ, w.prune())
	if w.below(2) == 0 && len(w.roots) > 0 {
		w.roots = w.roots[1:]
	}
	words, e := layout.Save(w.memory, table(), typ, v, w.held())
	if w.ended(e) {
		w.saved = append(w.saved, kept{typ: typ, value: v, words: words})
	}
	w.prune()
}

// keep lets an object hold another value, and hands in nothing of what it holds itself.
func (w *world) keep() {
	addrs := w.prune()
	if len(addrs) == 0 {
		return
	}
	addr := pick(&w.draw, addrs...)
	typ := w.objects[addr].typ
	v := w.value(typ, addrs)
	if at := slices.Index(w.roots, addr); at >= 0 {
		w.roots = slices.Delete(w.roots, at, at+1)
	}
	e := layout.Keep(w.memory, table(), typ, addr, v, w.held())
	// Whether or not there was room, the object counted among the roots.
	w.roots = append(w.roots, addr)
	if e == api.OK {
		w.objects[addr] = kept{typ: typ, value: v}
	}
	w.ended(e)
	w.prune()
}

// ended tells whether a call was done; if there was no room, some of what is held goes.
func (w *world) ended(e api.Errno) bool {
	w.t.Helper()
	if e != api.OK && e != api.ErrFull {
		w.t.Fatalf("error %d", e)
	}
	if e == api.ErrFull {
		w.full++
		if w.below(2) == 0 {
			w.drop(1 + len(w.roots)/2)
		}
	}
	return e == api.OK
}

func (w *world) collect() {
	switch w.below(4) {
	case 0:
		if e := w.memory.Collect(w.held()); e != api.OK {
			w.t.Fatalf("Collect: %d", e)
		}
	case 1:
		if w.memory.Phase() == api.Idle {
			w.memory.Begin(w.held())
		}
	default:
		w.memory.Work(w.below(40))
	}
}

// check looks for all that has to be there.
func (w *world) check() {
	w.t.Helper()
	for _, addr := range w.prune() {
		one := w.objects[addr]
		wantFetch(w.t, w.memory, one.typ, addr, one.value)
	}
	for _, s := range w.saved {
		wantLoad(w.t, w.memory, s.typ, s.words, s.value)
	}
}

// P16.1 to P16.4, 'What follows' and P2: whatever is made, saved, kept and collected, what is held is there.
func TestDrawnWorlds(t *testing.T) {
	cycles, full := 0, 0
	for seed := range 40 {
		d := draw(seed)
		pages, pace := pick(&d, 6, 12, 40), pick(&d, 1, 50, 400, never)
		w := &world{draw: d, t: t, memory: build(t, pages, pace), objects: map[int]kept{}}
		for range 150 {
			pick(&w.draw, w.make, w.save, w.save, w.keep, w.keep, w.collect, w.collect, func() { w.drop(1) })()
			w.check()
		}
		cycles, full = cycles+w.memory.Cycles(), full+w.full
	}
	t.Logf("%d cycles, %d times full", cycles, full)
	if cycles < 500 || full < 100 {
		t.Fatalf("%d cycles, %d times full", cycles, full)
	}
}

// P16.1, P16.2 and P2: drawn values there and back, with an object for each text and box.
func TestDrawnValues(t *testing.T) {
	d := draw(7)
	for range 300 {
		m := build(t, 1024, never)
		a, b := object(t, m, "p", 70), object(t, m, "-", strTag)
		typ := d.below(typeCount)
		v := d.value(typ, []int{a, b})
		count := len(live(m))
		saved(t, m, typ, v)
		if n := len(live(m)) - count; n != parts(v) {
			t.Fatalf("%d objects for %v, want %d", n, v, parts(v))
		}
	}
}

// P16.2: drawn faults, of the words themselves and of those in objects, are held against the chapter's sentences.
func TestDrawnFaults(t *testing.T) {
	d := draw(11)
	sound, unsound := 0, 0
	for range 3000 {
		m := build(t, 200, never)
		a, b := object(t, m, "p", 70), object(t, m, "-", strTag, 'q')
		typ := pick(&d, aStr, aPair, aBool, aPtr, pairs, anIface, anIface, link, single, mixed, names)
		words, e := layout.Save(m, table(), typ, d.value(typ, []int{a, b}), nil)
		if e != api.OK {
			t.Fatal(e)
		}
		all := live(m)
		for range 1 + d.below(2) {
			n := pick(&d, 0, 1, 2, 3, 8, uint64(d.below(typeCount+3)), uint64(pick(&d, all...)), uint64(pick(&d, all...)), uint64(pick(&d, all...)), uint64(d.below(20)), d.next())
			if d.below(2) == 0 {
				words[d.below(len(words))] = n
				continue
			}
			addr := pick(&d, all...)
			m.Set(addr, d.below(len(wordsAt(m, addr))), n)
		}
		want, _, ok := told(m, typ, words)
		got, e := layout.Load(m, table(), typ, words)
		if (e == api.OK) != ok || ok && !cells.Same(got, want) || !ok && (e != api.ErrForm || len(got) != 0) {
			t.Fatalf("Load(%d, %v) = %v, %d, want %v, %t", typ, words, got, e, want, ok)
		}
		if ok {
			sound++
		} else {
			unsound++
		}
	}
	if sound < 300 || unsound < 300 {
		t.Fatalf("%d sound, %d not", sound, unsound)
	}
}
