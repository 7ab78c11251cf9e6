package memory_test

import (
	"math/rand"
	"reflect"
	"slices"
	"testing"

	"heddle/api"
	"heddle/color"
	"heddle/heap"
	"heddle/memory"
	"heddle/reach"
)

// thing is an object of the model, live or dead, with its words beside the heap.
type thing struct {
	addr, node int
	tag        int
	ptrs       []bool
	words      []uint64
}

// model is a memory by the words of the chapter: a heap of layer 6, a graph of layer 8, and a list of objects that is searched from the beginning at each call.
type model struct {
	heap        *heap.Heap
	graph       *color.Graph
	things      []*thing
	pace, since int
}

func newModel(pages, pace int) *model {
	h, _ := heap.New(pages)
	return &model{heap: h, graph: color.New(), pace: max(pace, 1)}
}

// live answers the live object that begins at addr, or nil.
func (m *model) live(addr int) *thing {
	for _, x := range m.things {
		if _, e := m.graph.Color(x.node); x.addr == addr && e == api.OK {
			return x
		}
	}
	return nil
}

// wrong tells whether one of the roots is neither 0 nor the address of a live object.
func (m *model) wrong(roots []int) bool {
	return slices.ContainsFunc(roots, func(addr int) bool { return addr != 0 && m.live(addr) == nil })
}

// nodes answers the roots' nodes, in order.
func (m *model) nodes(roots []int) []int {
	var out []int
	for _, addr := range roots {
		if addr != 0 {
			out = append(out, m.live(addr).node)
		}
	}
	return out
}

func (m *model) alloc(ptrs []bool, tag int, roots []int) (int, api.Errno) {
	size := 8 * len(ptrs)
	if size == 0 || size > api.MaxObject || tag < 0 || tag > maxTag {
		return 0, api.ErrArg
	}
	if m.wrong(roots) {
		return 0, api.ErrNone
	}
	m.shade(roots)
	if m.graph.Phase() == api.Idle && m.since >= m.pace {
		m.begin(roots)
	}
	addr, e := m.heap.Alloc(size, tag)
	if e == api.ErrFull && m.graph.Phase() != api.Idle {
		m.work(1 << 30)
		addr, e = m.heap.Alloc(size, tag)
	}
	if e == api.ErrFull {
		m.begin(roots)
		m.work(1 << 30)
		addr, e = m.heap.Alloc(size, tag)
	}
	if e != api.OK {
		return 0, e
	}
	slots := 0
	for _, p := range ptrs {
		slots += boolean(p)
	}
	node, _ := m.graph.Node(slots)
	m.things = append(m.things, &thing{addr, node, tag, slices.Clone(ptrs), make([]uint64, len(ptrs))})
	m.since += len(ptrs)
	return addr, api.OK
}

// shade shades the roots' nodes, in order, in the phase Mark.
func (m *model) shade(roots []int) {
	if m.graph.Phase() != api.Mark {
		return
	}
	for _, n := range m.nodes(roots) {
		m.graph.Shade(n)
	}
}

func (m *model) get(addr, i int) (uint64, api.Errno) {
	x := m.live(addr)
	if x == nil {
		return 0, api.ErrNone
	}
	if i < 0 || i >= len(x.words) {
		return 0, api.ErrRange
	}
	return x.words[i], api.OK
}

func (m *model) set(addr, i int, v uint64) api.Errno {
	if _, e := m.get(addr, i); e != api.OK {
		return e
	}
	x := m.live(addr)
	if x.ptrs[i] {
		to := -1
		if v != 0 {
			named := m.live(int(v))
			if named == nil {
				return api.ErrNone
			}
			to = named.node
		}
		slot := 0
		for _, p := range x.ptrs[:i] {
			slot += boolean(p)
		}
		m.graph.Set(x.node, slot, to)
	}
	x.words[i] = v
	return api.OK
}

func (m *model) begin(roots []int) api.Errno {
	if m.graph.Phase() != api.Idle {
		return api.ErrPhase
	}
	if m.wrong(roots) {
		return api.ErrNone
	}
	m.since = 0
	return m.graph.Start(m.nodes(roots))
}

// work does its units one by one.
func (m *model) work(units int) int {
	left := max(units, 0)
	for left > 0 && m.graph.Phase() != api.Idle {
		_, swept := m.graph.Work(1)
		left--
		m.things = slices.DeleteFunc(m.things, func(x *thing) bool {
			gone := slices.Contains(swept, x.node)
			if gone {
				m.heap.Free(x.addr)
			}
			return gone
		})
	}
	return left
}

func (m *model) collect(roots []int) api.Errno {
	if m.wrong(roots) {
		return api.ErrNone
	}
	m.shade(roots)
	m.work(1 << 30)
	m.begin(roots)
	m.work(1 << 30)
	return api.OK
}

func (m *model) info(x *thing) api.Object {
	o := object(x.addr, 8*len(x.words), x.tag)
	for i, v := range x.words {
		if x.ptrs[i] && v != 0 {
			o.Refs = append(o.Refs, int(v))
		}
	}
	return o
}

func (m *model) view(roots []int) (api.View, api.Errno) {
	if m.wrong(roots) {
		return api.View{}, api.ErrNone
	}
	v := api.View{Free: slices.Collect(m.heap.Holes()), Phase: m.graph.Phase(), Cycles: m.graph.Cycles()}
	for _, x := range m.things {
		if m.live(x.addr) != nil {
			v.Objects = append(v.Objects, m.info(x))
		}
	}
	slices.SortFunc(v.Objects, func(a, b api.Object) int { return a.Addr - b.Addr })
	v.Roots = slices.DeleteFunc(slices.Clone(roots), func(addr int) bool { return addr == 0 })
	return v, api.OK
}

// both is a memory and the model of it, which are asked the same.
type both struct {
	t *testing.T
	m *memory.Memory
	w *model
}

func newBoth(t *testing.T, pages, pace int) both {
	t.Helper()
	return both{t, build(t, pages, pace), newModel(pages, pace)}
}

func (b both) alloc(ptrs []bool, tag int, roots []int) {
	b.t.Helper()
	addr, e := b.w.alloc(ptrs, tag, roots)
	wantAlloc(b.t, b.m, ptrs, tag, roots, addr, e)
}

func (b both) set(addr, i int, v uint64) {
	b.t.Helper()
	wantSet(b.t, b.m, addr, i, v, b.w.set(addr, i, v))
}

func (b both) get(addr, i int) {
	b.t.Helper()
	v, e := b.w.get(addr, i)
	wantGet(b.t, b.m, addr, i, v, e)
}

func (b both) begin(roots []int) {
	b.t.Helper()
	wantBegin(b.t, b.m, roots, b.w.begin(roots))
}

func (b both) work(units int) {
	b.t.Helper()
	wantWork(b.t, b.m, units, b.w.work(units))
}

func (b both) collect(roots []int) {
	b.t.Helper()
	wantCollect(b.t, b.m, roots, b.w.collect(roots))
}

// same holds all that the memory tells against the model, with roots that may be wrong.
func (b both) same(roots []int) {
	b.t.Helper()
	v, e := b.w.view(roots)
	wantView(b.t, b.m, roots, v, e)
	wantPhase(b.t, b.m, b.w.graph.Phase(), b.w.graph.Cycles())
	for _, x := range b.w.things {
		if b.w.live(x.addr) == nil {
			wantInfo(b.t, b.m, x.addr, api.Object{}, api.ErrNone)
			wantPtrs(b.t, b.m, x.addr, nil, api.ErrNone)
			wantGet(b.t, b.m, x.addr, 0, 0, api.ErrNone)
			continue
		}
		wantInfo(b.t, b.m, x.addr, b.w.info(x), api.OK)
		wantPtrs(b.t, b.m, x.addr, x.ptrs, api.OK)
		wantWords(b.t, b.m, x.addr, x.words...)
	}
	for _, words := range []int{1, 2, 3, 6, 16, 17, 32, 33, 64} {
		wantFits(b.t, b.m, words, b.w.heap.Fits(8*words))
	}
}

// drawShape answers up to most words, which are pointers or not; now and then none.
func drawShape(draw *rand.Rand, most int) []bool {
	out := make([]bool, draw.Intn(most)+1)
	for i := range out {
		out[i] = draw.Intn(2) == 0
	}
	if draw.Intn(30) == 0 {
		return nil
	}
	return out
}

// drawAddr answers an address, that of a live object more often than not, 0 at times.
func drawAddr(draw *rand.Rand, live []int, pages int) int {
	if len(live) > 0 && draw.Intn(12) > 0 {
		return live[draw.Intn(len(live))]
	}
	if draw.Intn(3) > 0 {
		return 0
	}
	return 8 * draw.Intn(32*(pages+2))
}

// drawRoots answers up to most of the live objects' addresses, 0s and doubles among them, and now and then a wrong one.
func drawRoots(draw *rand.Rand, live []int, most int) []int {
	var roots []int
	for range draw.Intn(most + 1) {
		if len(live) > 0 && draw.Intn(6) > 0 {
			roots = append(roots, live[draw.Intn(len(live))])
		} else {
			roots = append(roots, 0)
		}
	}
	if draw.Intn(15) == 0 {
		roots = append(roots, draw.Intn(700)+1)
	}
	return roots
}

// call draws a call and holds it against the model.
func (b both) call(draw *rand.Rand, pages, most int) {
	b.t.Helper()
	objects := live(b.m)
	addr := func() int { return drawAddr(draw, objects, pages) }
	switch draw.Intn(16) {
	case 0, 1, 2, 3:
		b.alloc(drawShape(draw, most), draw.Intn(5)-draw.Intn(20)/19, drawRoots(draw, objects, 4))
	case 4, 5, 6, 7, 8:
		b.set(addr(), draw.Intn(most+2)-1, uint64(addr()))
	case 9:
		b.get(addr(), draw.Intn(most+2)-1)
	case 10:
		b.begin(drawRoots(draw, objects, 4))
	case 11:
		if draw.Intn(4) == 0 {
			b.collect(drawRoots(draw, objects, 6))
		}
	default:
		b.work(draw.Intn(8) - 1)
	}
	b.same(drawRoots(draw, objects, 2))
}

// P9.2 to P9.7, R3: drawn calls, wrong ones among them, answer as the model does, and leave what it leaves.
func TestDrawnCalls(t *testing.T) {
	draw := rand.New(rand.NewSource(9))
	for round := range 300 {
		pages, pace := draw.Intn(5), []int{-1, 1, 2, 5, 20, 60, never}[round%7]
		most := []int{1, 3, 6, 20, 40}[draw.Intn(5)]
		b := newBoth(t, pages, pace)
		for step := range 120 {
			b.call(draw, pages, most)
			if t.Failed() {
				t.Fatalf("round %d, step %d: %d pages, pace %d", round, step, pages, pace)
			}
		}
		b.collect(nil)
		b.same(nil)
	}
}

// P9.2, P9.5: every way to call four times, upon a page with two objects of sixteen words, out of all that counts in a cycle.
func TestAllShortCalls(t *testing.T) {
	form := shape("p--------------p")
	calls := []func(both){
		func(b both) { b.begin(nil) },
		func(b both) { b.begin(list(256)) },
		func(b both) { b.begin(list(384, 0, 256)) },
		func(b both) { b.work(1) },
		func(b both) { b.work(4) },
		func(b both) { b.alloc(form, 3, nil) },
		func(b both) { b.alloc(form, 4, list(256)) },
		func(b both) { b.alloc(form, 5, list(256, 384)) },
		func(b both) { b.alloc(shape("p"), 6, list(384)) },
		func(b both) { b.set(256, 15, 384) },
		func(b both) { b.set(256, 15, 0) },
		func(b both) { b.set(256, 1, 384) },
		func(b both) { b.set(384, 0, 256) },
		func(b both) { b.collect(list(256)) },
		func(b both) { b.collect(nil) },
	}
	var each func(pace int, script []int)
	each = func(pace int, script []int) {
		b := newBoth(t, 1, pace)
		b.alloc(form, 1, nil)
		b.alloc(form, 2, nil)
		for _, c := range script {
			calls[c](b)
		}
		b.same(nil)
		b.work(100)
		b.alloc(form, 7, nil)
		b.same(nil)
		if t.Failed() {
			t.Fatalf("pace %d, calls %v", pace, script)
		}
		for c := 0; c < len(calls) && len(script) < 4; c++ {
			each(pace, append(slices.Clone(script), c))
		}
	}
	each(40, nil)
}

// P9.5: drawn memories: work cut into drawn pieces does what it does at one time.
func TestDrawnPieces(t *testing.T) {
	for seed := range int64(200) {
		whole, cut := drawnMemory(seed), drawnMemory(seed)
		draw := rand.New(rand.NewSource(seed + 1000))
		roots := drawRoots(draw, live(whole), 3)
		whole.Begin(roots)
		cut.Begin(roots)
		need, used := 1000-whole.Work(1000), 0
		for cut.Phase() != api.Idle {
			units := draw.Intn(9) - 1
			used += max(units, 0) - cut.Work(units)
		}
		if used != need {
			t.Errorf("seed %d: %d units, want %d", seed, used, need)
		}
		wantSameFuture(t, cut, whole)
	}
}

// drawnMemory answers a memory of up to ten objects, some of which have been collected, with drawn words.
func drawnMemory(seed int64) *memory.Memory {
	draw := rand.New(rand.NewSource(seed))
	m, _ := memory.New(16, never)
	for range draw.Intn(10) + 1 {
		m.Alloc(append(drawShape(draw, 4), draw.Intn(2) == 0), 0, nil)
	}
	m.Collect(drawRoots(draw, live(m), 10))
	for range draw.Intn(8) + 1 {
		m.Alloc(append(drawShape(draw, 4), draw.Intn(2) == 0), 1, nil)
	}
	objects := live(m)
	for range 3 * len(objects) {
		m.Set(objects[draw.Intn(len(objects))], draw.Intn(5), uint64(drawAddr(draw, objects, 16)))
	}
	return m
}

// cycle is what 'What follows' asks of a cycle: what there was at its Begin, and what counts since.
type cycle struct {
	start []api.Object
	kept  []int // roots of the Begin and of each Alloc since, and what was Set
	made  []int
}

// reached answers the addresses of those of the objects that are reached from some of them, by layer 7.
func reached(objects []api.Object, from []int) []int {
	number := map[int]int{}
	for i, o := range objects {
		number[o.Addr] = i
	}
	net := make([][]int, len(objects))
	for i, o := range objects {
		for _, addr := range o.Refs {
			net[i] = append(net[i], number[addr])
		}
	}
	var roots []int
	for _, addr := range from {
		// What was made since is no node of this net, and no object of it names it.
		if n, ok := number[addr]; ok {
			roots = append(roots, n)
		}
	}
	set, _ := reach.Set(net, roots)
	var out []int
	for i, is := range set {
		if is {
			out = append(out, objects[i].Addr)
		}
	}
	return out
}

// program is what an honest program has: it holds some objects, and does nothing to others than those that it reaches.
type program struct {
	m    *memory.Memory
	held []int
}

// reaches answers the addresses of what the program reaches now.
func (p *program) reaches() []int {
	v, _ := p.m.View(nil)
	return reached(v.Objects, p.held)
}

// step does one thing that a program does, and notes what of it counts for the cycle.
func (p *program) step(draw *rand.Rand, c *cycle) {
	objects := p.reaches()
	switch n := draw.Intn(6); {
	case n == 0 || len(objects) == 0:
		phase := p.m.Phase()
		addr, e := p.m.Alloc(append(drawShape(draw, 3), true), 2, p.held)
		if e == api.OK && p.m.Phase() == phase {
			c.kept, c.made = append(c.kept, p.held...), append(c.made, addr)
			p.held = append(p.held, addr)
		}
	case n == 1 && len(p.held) > 0:
		i := draw.Intn(len(p.held))
		p.held = slices.Delete(p.held, i, i+1)
	case n == 2:
		p.held = append(p.held, objects[draw.Intn(len(objects))])
	default:
		to := append(objects, 0)[draw.Intn(len(objects)+1)]
		if p.m.Set(objects[draw.Intn(len(objects))], draw.Intn(4), uint64(to)) == api.OK {
			c.kept = append(c.kept, to)
		}
	}
}

// What follows, over drawn scripts: at the end of a cycle just those objects are live that the roots of its Begin reached then, that came later, and that are reached from what was Set or handed in since; and all that the program reaches is among them.
func TestWhatFollows(t *testing.T) {
	died, lived := 0, 0
	for seed := range int64(600) {
		draw := rand.New(rand.NewSource(seed))
		p := &program{m: drawnMemory(seed)}
		p.held = live(p.m)
		for range 4 {
			for range draw.Intn(8) {
				p.step(draw, &cycle{})
			}
			p.held = slices.DeleteFunc(p.held, func(int) bool { return draw.Intn(3) == 0 })
			v, _ := p.m.View(nil)
			c := &cycle{start: v.Objects, kept: slices.Clone(p.held)}
			wantBegin(t, p.m, p.held, api.OK)
			for p.m.Phase() == api.Mark {
				for range draw.Intn(3) * draw.Intn(2) {
					p.step(draw, c)
				}
				p.m.Work(1)
			}
			marked := append(reached(c.start, c.kept), c.made...)
			slices.Sort(marked)
			wantLive(t, p.m, marked...)
			c.made = nil
			for p.m.Phase() != api.Idle {
				p.step(draw, c)
				p.m.Work(draw.Intn(3))
			}
			want := append(marked, c.made...)
			slices.Sort(want)
			wantLive(t, p.m, want...)
			for _, addr := range p.reaches() {
				if !slices.Contains(want, addr) {
					t.Errorf("%d is reached and gone", addr)
				}
			}
			died, lived = died+len(c.start)-len(reached(c.start, c.kept)), lived+len(want)
			if t.Failed() {
				t.Fatalf("seed %d", seed)
			}
		}
	}
	if died < 1000 || lived < 1000 {
		t.Errorf("%d died and %d lived: too few to tell anything", died, lived)
	}
}

// What follows: whatever is Set, and wherever, no live object ever names one that is not live, and words and Refs tell the same.
func TestPointersNameLiveObjects(t *testing.T) {
	for seed := range int64(200) {
		draw := rand.New(rand.NewSource(seed))
		m := drawnMemory(seed)
		for range 60 {
			objects := live(m)
			m.Begin(drawRoots(draw, objects, 2))
			m.Alloc(append(drawShape(draw, 3), true), 0, drawRoots(draw, objects, 1))
			for range 3 {
				m.Set(drawAddr(draw, objects, 16), draw.Intn(4), uint64(drawAddr(draw, objects, 16)))
			}
			m.Work(draw.Intn(6))
			v, _ := m.View(nil)
			for _, o := range v.Objects {
				ptrs, _ := m.Ptrs(o.Addr)
				var refs []int
				for i, v := range words(m, o.Addr) {
					if ptrs[i] && v != 0 {
						refs = append(refs, int(v))
					}
				}
				if !slices.Equal(refs, o.Refs) {
					t.Fatalf("seed %d: %d has words %v and Refs %v", seed, o.Addr, refs, o.Refs)
				}
				for _, addr := range refs {
					if _, e := m.Info(addr); e != api.OK {
						t.Fatalf("seed %d: %d names %d, which is not live", seed, o.Addr, addr)
					}
				}
			}
		}
	}
}

// R5, R7: what a memory answers hangs on its calls alone.
func TestSameCallsSameAnswers(t *testing.T) {
	told := func() []state {
		var all []state
		m, _ := memory.New(2, 7)
		draw := rand.New(rand.NewSource(6))
		for range 200 {
			objects := live(m)
			m.Alloc(drawShape(draw, 6), 0, drawRoots(draw, objects, 5))
			m.Set(drawAddr(draw, objects, 2), draw.Intn(6), uint64(drawAddr(draw, objects, 2)))
			m.Work(draw.Intn(4))
			all = append(all, look(m))
		}
		return all
	}
	if a, b := told(), told(); !reflect.DeepEqual(a, b) {
		t.Errorf("%v, then %v", a, b)
	}
}
