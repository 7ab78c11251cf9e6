package memory_test

import (
	"math"
	"reflect"
	"slices"
	"testing"

	"heddle/api"
	"heddle/memory"
)

// never is a pace that is never come to.
const never = math.MaxInt

// most is how many words an object has at most.
const most = api.MaxObject / 8

// maxTag is the greatest tag.
const maxTag = 2147483647

// list writes a list of numbers out.
func list(n ...int) []int { return n }

// shape writes out which words are pointers: p stands for a pointer.
func shape(s string) []bool {
	out := make([]bool, len(s))
	for i := range s {
		out[i] = s[i] == 'p'
	}
	return out
}

// plain answers so many words, none of them a pointer.
func plain(words int) []bool { return make([]bool, words) }

// pointers answers so many words, all of them pointers.
func pointers(words int) []bool { return slices.Repeat([]bool{true}, words) }

// brief keeps long lists out of what a test tells.
func brief[T any](l []T) []T { return l[:min(len(l), 20)] }

func build(t *testing.T, pages, pace int) *memory.Memory {
	t.Helper()
	m, e := memory.New(pages, pace)
	if m == nil || e != api.OK {
		t.Fatalf("New(%d, %d) = %v, %d", pages, pace, m, e)
	}
	return m
}

func wantAlloc(t *testing.T, m *memory.Memory, ptrs []bool, tag int, roots []int, addr int, want api.Errno) {
	t.Helper()
	if got, e := m.Alloc(ptrs, tag, roots); got != addr || e != want {
		t.Errorf("Alloc(%d words %v, %d, %v) = %d, %d, want %d, %d", len(ptrs), brief(ptrs), tag, brief(roots), got, e, addr, want)
	}
}

func wantGet(t *testing.T, m *memory.Memory, addr, i int, v uint64, want api.Errno) {
	t.Helper()
	if got, e := m.Get(addr, i); got != v || e != want {
		t.Errorf("Get(%d, %d) = %d, %d, want %d, %d", addr, i, got, e, v, want)
	}
}

func wantSet(t *testing.T, m *memory.Memory, addr, i int, v uint64, want api.Errno) {
	t.Helper()
	if e := m.Set(addr, i, v); e != want {
		t.Errorf("Set(%d, %d, %d) = %d, want %d", addr, i, v, e, want)
	}
}

func wantPtrs(t *testing.T, m *memory.Memory, addr int, ptrs []bool, want api.Errno) {
	t.Helper()
	if got, e := m.Ptrs(addr); !slices.Equal(got, ptrs) || e != want {
		t.Errorf("Ptrs(%d) = %v, %d, want %v, %d", addr, brief(got), e, brief(ptrs), want)
	}
}

// same tells whether two objects are told alike; empty Refs may be nil or not.
func same(a, b api.Object) bool {
	return a.Addr == b.Addr && a.Size == b.Size && a.Tag == b.Tag && slices.Equal(a.Refs, b.Refs)
}

func object(addr, size, tag int, refs ...int) api.Object {
	return api.Object{Addr: addr, Size: size, Tag: tag, Refs: refs}
}

func wantInfo(t *testing.T, m *memory.Memory, addr int, o api.Object, want api.Errno) {
	t.Helper()
	if got, e := m.Info(addr); !same(got, o) || e != want {
		t.Errorf("Info(%d) = %v, %d, want %v, %d", addr, got, e, o, want)
	}
}

func wantBegin(t *testing.T, m *memory.Memory, roots []int, want api.Errno) {
	t.Helper()
	if e := m.Begin(roots); e != want {
		t.Errorf("Begin(%v) = %d, want %d", brief(roots), e, want)
	}
}

func wantWork(t *testing.T, m *memory.Memory, units, left int) {
	t.Helper()
	if got := m.Work(units); got != left {
		t.Errorf("Work(%d) = %d, want %d", units, got, left)
	}
}

func wantCollect(t *testing.T, m *memory.Memory, roots []int, want api.Errno) {
	t.Helper()
	if e := m.Collect(roots); e != want {
		t.Errorf("Collect(%v) = %d, want %d", brief(roots), e, want)
	}
}

func wantPhase(t *testing.T, m *memory.Memory, phase, cycles int) {
	t.Helper()
	if p, c := m.Phase(), m.Cycles(); p != phase || c != cycles {
		t.Errorf("phase %d, cycles %d, want %d, %d", p, c, phase, cycles)
	}
}

func wantFits(t *testing.T, m *memory.Memory, words int, want bool) {
	t.Helper()
	if got := m.Fits(words); got != want {
		t.Errorf("Fits(%d) = %v, want %v", words, got, want)
	}
}

// sameView takes empty lists for the same, nil or not.
func sameView(a, b api.View) bool {
	return slices.EqualFunc(a.Objects, b.Objects, same) && slices.Equal(a.Free, b.Free) &&
		slices.Equal(a.Roots, b.Roots) && a.Phase == b.Phase && a.Cycles == b.Cycles
}

func wantView(t *testing.T, m *memory.Memory, roots []int, v api.View, want api.Errno) {
	t.Helper()
	if got, e := m.View(roots); !sameView(got, v) || e != want {
		t.Errorf("View(%v) = %v, %d, want %v, %d", brief(roots), got, e, v, want)
	}
}

// live answers the addresses of the live objects.
func live(m *memory.Memory) []int {
	v, _ := m.View(nil)
	var out []int
	for _, o := range v.Objects {
		out = append(out, o.Addr)
	}
	return out
}

func wantLive(t *testing.T, m *memory.Memory, want ...int) {
	t.Helper()
	if got := live(m); !slices.Equal(got, want) {
		t.Errorf("live: %v, want %v", brief(got), brief(want))
	}
}

func wantWords(t *testing.T, m *memory.Memory, addr int, words ...uint64) {
	t.Helper()
	for i, v := range words {
		wantGet(t, m, addr, i, v, api.OK)
	}
	wantGet(t, m, addr, len(words), 0, api.ErrRange)
}

// words answers all words of an object.
func words(m *memory.Memory, addr int) []uint64 {
	ptrs, _ := m.Ptrs(addr)
	out := make([]uint64, len(ptrs))
	for i := range out {
		out[i], _ = m.Get(addr, i)
	}
	return out
}

// state is what can be seen of a memory.
type state struct {
	view  api.View
	words [][]uint64
	ptrs  [][]bool
	fits  []bool
}

func look(m *memory.Memory) state {
	v, _ := m.View(nil)
	s := state{view: v}
	for _, o := range v.Objects {
		p, _ := m.Ptrs(o.Addr)
		s.words, s.ptrs = append(s.words, words(m, o.Addr)), append(s.ptrs, p)
	}
	for _, n := range []int{1, 2, 3, 4, 6, 8, 12, 16, 17, 32, 33, 64, 65, 96, 128, 129} {
		s.fits = append(s.fits, m.Fits(n))
	}
	return s
}

// wantSameFuture asks whether two memories look the same and stay so unit by unit, till neither has any work, and with what is allocated then: by it shows too what was allocated since the last Begin.
func wantSameFuture(t *testing.T, a, b *memory.Memory) {
	t.Helper()
	for first := true; first || a.Phase() != api.Idle; first = false {
		if x, y := look(a), look(b); !reflect.DeepEqual(x, y) {
			t.Fatalf("%v, but %v", x, y)
		}
		wantWork(t, a, 1, b.Work(1))
	}
	for range 40 {
		addr, e := b.Alloc(shape("p"), 3, nil)
		wantAlloc(t, a, shape("p"), 3, nil, addr, e)
		if x, y := look(a), look(b); !reflect.DeepEqual(x, y) {
			t.Fatalf("at the end %v, but %v", x, y)
		}
	}
}

// blackening answers the nodes of the graph in the order in which they become Black from now on, up to the end of the phase Mark: the line's order.
func blackening(m *memory.Memory) []int {
	var order []int
	for m.Phase() == api.Mark {
		before := map[int]int{}
		for n := range m.Live() {
			before[n], _ = m.Color(n)
		}
		m.Work(1)
		for n := range m.Live() {
			if c, _ := m.Color(n); c == api.Black && before[n] != api.Black {
				order = append(order, n)
			}
		}
	}
	return order
}

func wantBlackening(t *testing.T, m *memory.Memory, want ...int) {
	t.Helper()
	if got := blackening(m); !slices.Equal(got, want) {
		t.Errorf("became Black: %v, want %v", got, want)
	}
}

// phases lists all of them.
func phases() []int { return list(api.Idle, api.Mark, api.Sweep) }

// toSweep works till the phase is Sweep.
func toSweep(m *memory.Memory) {
	for m.Phase() == api.Mark {
		m.Work(1)
	}
}

// world answers a memory of four pages, the last of which is free, in a phase, with one of each kind of address: 552 was freed in an earlier cycle, 528 too, but has come again.
// Nodes by number: 256, 512, 520, 768, 784, 528, 536, 544 (of the phases Mark and Sweep). One word was allocated since the last Begin; the pace is 30.
// Idle: all are live. Mark: all are live, 256 Grey and one of its slots looked at, 768 and 512 Grey, 544 Black, the others White.
// Sweep: 520 was freed in this cycle, 784, 528 and 536 are dead, the place is 3. Objects 256, 512 and 768 live in all phases.
func world(t *testing.T, phase int) *memory.Memory {
	t.Helper()
	m := build(t, 4, 30)
	shapes := []string{"p-p", "p", "-", "pp", "-p", "p", "p", "-", "p"}
	for i, addr := range []int{256, 512, 520, 768, 784, 528, 536, 544, 552} {
		wantAlloc(t, m, shape(shapes[i]), i, nil, addr, api.OK)
	}
	wantCollect(t, m, list(256, 512, 520, 768, 784, 536), api.OK)
	wantAlloc(t, m, shape("-"), 9, nil, 528, api.OK)
	for _, s := range [][3]int{{256, 0, 512}, {256, 1, 784}, {256, 2, 256}, {512, 0, 768}, {520, 0, 520}, {784, 0, 3}, {784, 1, 520}, {536, 0, 512}} {
		wantSet(t, m, s[0], s[1], uint64(s[2]), api.OK)
	}
	if phase == api.Idle {
		wantPhase(t, m, api.Idle, 1)
		return m
	}
	wantBegin(t, m, list(256, 768), api.OK)
	wantWork(t, m, 1, 0)
	wantAlloc(t, m, shape("p"), 10, nil, 544, api.OK)
	if phase == api.Sweep {
		toSweep(m)
		wantWork(t, m, 3, 0)
	}
	wantPhase(t, m, phase, 1)
	wantLive(t, m, alive(phase)...)
	return m
}

// alive answers the addresses of the live objects of the world.
func alive(phase int) []int {
	switch phase {
	case api.Idle:
		return list(256, 512, 520, 528, 536, 768, 784)
	case api.Mark:
		return list(256, 512, 520, 528, 536, 544, 768, 784)
	}
	return list(256, 512, 544, 768)
}

// strange answers numbers, beside 0, that are no live object's address in the world: below all, inside objects, in free slots, behind the last page, and those of what was freed and of what is dead.
func strange(phase int) []int {
	out := list(math.MinInt, math.MinInt+1, math.MinInt32, -1<<32, -1<<32+256, -512, -256, -8, -1, 1, 2, 7, 8, 248, 255,
		257, 260, 263, 264, 272, 279, 280, 304, 511, 513, 519, 552, 560, 760, 767, 776, 783, 792, 800, 1008, 1016, 1023,
		1024, 1032, 1272, 1279, 1280, 1281, 1536, api.MaxArena-8, api.MaxArena, api.MaxArena+256,
		math.MaxInt32, 1<<32, 1<<32+256, 1<<32+512, math.MaxInt-7, math.MaxInt-1, math.MaxInt)
	switch phase {
	case api.Idle:
		out = append(out, 544)
	case api.Sweep:
		out = append(out, 520, 528, 536, 784)
	}
	return out
}

// boolean is 1 for true.
func boolean(b bool) int {
	if b {
		return 1
	}
	return 0
}

// full answers a memory of one page full of two objects of sixteen pointers each, 256 and 384, whose nodes are 0 and 1.
func full(t *testing.T, pace int) *memory.Memory {
	t.Helper()
	m := build(t, 1, pace)
	wantAlloc(t, m, pointers(16), 1, nil, 256, api.OK)
	wantAlloc(t, m, pointers(16), 2, nil, 384, api.OK)
	wantFits(t, m, 16, false)
	return m
}
