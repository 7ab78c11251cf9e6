package color_test

import (
	"math/rand"
	"reflect"
	"slices"
	"testing"

	"heddle/api"
	"heddle/color"
	"heddle/reach"
)

// thing is a node of the model, live or dead; seen tells which slots were looked at since it became Grey.
type thing struct {
	dead  bool
	color int
	slots []int
	seen  []bool
}

// model is a graph by the words of the chapter.
type model struct {
	things     map[int]*thing
	numbers    int // one more than the greatest that any node has had
	line       []int
	phase      int
	place, end int
	cycles     int
}

func newModel() *model { return &model{things: map[int]*thing{}} }

func (m *model) isLive(n int) bool { return m.things[n] != nil && !m.things[n].dead }

func (m *model) node(slots int) (int, api.Errno) {
	if slots < 0 || slots > api.MaxSlots {
		return 0, api.ErrArg
	}
	if len(m.things) == api.MaxNodes {
		return 0, api.ErrFull
	}
	n := 0
	for m.things[n] != nil {
		n++
	}
	m.things[n] = &thing{color: black, slots: empty(slots)}
	m.numbers = max(m.numbers, n+1)
	return n, api.OK
}

func (m *model) shade(n int) {
	if x := m.things[n]; m.phase == api.Mark && x != nil && x.color == white {
		x.color, x.seen = grey, make([]bool, len(x.slots))
		m.line = append(m.line, n)
	}
}

func (m *model) set(n, slot, to int) api.Errno {
	if !m.isLive(n) || to != -1 && !m.isLive(to) {
		return api.ErrNone
	}
	x := m.things[n]
	if slot < 0 || slot >= len(x.slots) {
		return api.ErrRange
	}
	m.shade(x.slots[slot])
	m.shade(to)
	x.slots[slot] = to
	return api.OK
}

func (m *model) shadeLive(n int) api.Errno {
	if !m.isLive(n) {
		return api.ErrNone
	}
	m.shade(n)
	return api.OK
}

func (m *model) start(roots []int) api.Errno {
	if m.phase != api.Idle {
		return api.ErrPhase
	}
	if slices.ContainsFunc(roots, func(n int) bool { return !m.isLive(n) }) {
		return api.ErrNone
	}
	m.phase, m.line = api.Mark, nil
	for _, x := range m.things {
		x.color = white
	}
	for _, n := range roots {
		m.shade(n)
	}
	return api.OK
}

func (m *model) unit() (swept []int) {
	switch {
	case m.phase == api.Mark && len(m.line) > 0:
		x := m.things[m.line[0]]
		if slot := slices.Index(x.seen, false); slot >= 0 {
			x.seen[slot] = true
			m.shade(x.slots[slot])
		} else {
			x.color = black
			m.line = m.line[1:]
		}
	case m.phase == api.Mark:
		for _, x := range m.things {
			x.dead = x.color == white
		}
		m.phase, m.place, m.end = api.Sweep, 0, m.numbers
	case m.phase == api.Sweep && m.place == m.end:
		m.phase = api.Idle
		m.cycles++
	case m.phase == api.Sweep:
		if x := m.things[m.place]; x != nil && x.dead {
			delete(m.things, m.place)
			swept = list(m.place)
		}
		m.place++
	}
	return swept
}

func (m *model) work(units int) (int, []int) {
	var swept []int
	for units > 0 && m.phase != api.Idle {
		swept = append(swept, m.unit()...)
		units--
	}
	return max(units, 0), swept
}

func (m *model) look() state {
	s := state{phase: m.phase, cycles: m.cycles}
	for n := range m.numbers {
		if m.isLive(n) {
			x := m.things[n]
			s.live, s.colors = append(s.live, n), append(s.colors, x.color)
			s.slots = append(s.slots, slices.Clone(x.slots))
		}
	}
	return s
}

// both is a graph and the model of it, which are asked the same.
type both struct {
	t *testing.T
	g *color.Graph
	m *model
}

func (b both) node(slots int) {
	b.t.Helper()
	n, want := b.m.node(slots)
	wantNode(b.t, b.g, slots, n, want)
}

func (b both) set(n, slot, to int) {
	b.t.Helper()
	wantSet(b.t, b.g, n, slot, to, b.m.set(n, slot, to))
}

func (b both) shade(n int) {
	b.t.Helper()
	wantShade(b.t, b.g, n, b.m.shadeLive(n))
}

func (b both) start(roots []int) {
	b.t.Helper()
	wantStart(b.t, b.g, roots, b.m.start(roots))
}

func (b both) work(units int) {
	b.t.Helper()
	left, swept := b.m.work(units)
	wantWork(b.t, b.g, units, left, swept...)
}

// same asks whether both look the same, and what the graph answers of numbers that are no live node's.
func (b both) same() {
	b.t.Helper()
	if got, want := look(b.g), b.m.look(); !sameState(got, want) {
		b.t.Errorf("%v, want %v", got, want)
	}
	for n := -1; n <= b.m.numbers; n++ {
		if !b.m.isLive(n) {
			wantSlots(b.t, b.g, n, nil, api.ErrNone)
			wantColor(b.t, b.g, n, 0, api.ErrNone)
		}
	}
}

// sameState takes empty lists for the same, nil or not.
func sameState(a, b state) bool {
	return a.phase == b.phase && a.cycles == b.cycles && slices.Equal(a.live, b.live) &&
		slices.Equal(a.colors, b.colors) && slices.EqualFunc(a.slots, b.slots, slices.Equal)
}

// drawRoots answers up to most numbers, of which one is no live node's at times.
func drawRoots(draw *rand.Rand, live []int, most int) []int {
	var roots []int
	for range draw.Intn(most + 1) {
		if len(live) > 0 {
			roots = append(roots, live[draw.Intn(len(live))])
		}
	}
	if draw.Intn(8) == 0 {
		roots = append(roots, draw.Intn(len(live)+4)-1)
	}
	return roots
}

// P8.1 to P8.5, R3: drawn calls, wrong ones among them, answer as the model does, and leave what it leaves.
func TestDrawnCalls(t *testing.T) {
	draw := rand.New(rand.NewSource(8))
	for round := range 400 {
		b := both{t, color.New(), newModel()}
		most := draw.Intn(12) + 1
		any := func() int { return draw.Intn(b.m.numbers+3) - 1 }
		for range 150 {
			switch draw.Intn(8) {
			case 0:
				if len(b.m.things) < most {
					b.node(draw.Intn(5) - 1)
				}
			case 1, 2, 3:
				b.set(any(), draw.Intn(5)-1, any())
			case 4:
				b.shade(any())
			case 5:
				b.start(drawRoots(draw, b.m.look().live, 3))
			default:
				b.work(draw.Intn(6) - 1)
			}
			b.same()
			if t.Failed() {
				t.Fatalf("round %d", round)
			}
		}
		b.work(1 << 20)
		b.same()
	}
}

// P8.1 to P8.5: every way to call five times, upon three nodes, out of all that counts in a cycle.
func TestAllShortCalls(t *testing.T) {
	calls := []func(both){
		func(b both) { b.start(nil) },
		func(b both) { b.start(list(0)) },
		func(b both) { b.work(1) },
		func(b both) { b.work(2) },
		func(b both) { b.work(5) },
		func(b both) { b.node(1) },
		func(b both) { b.set(0, 0, 2) },
		func(b both) { b.set(0, 0, -1) },
		func(b both) { b.set(2, 0, 3) },
		func(b both) { b.shade(1) },
	}
	var each func(script []int)
	each = func(script []int) {
		b := both{t, color.New(), newModel()}
		for range 3 {
			b.node(1)
		}
		b.set(0, 0, 1)
		b.set(1, 0, 2)
		for _, c := range script {
			calls[c](b)
		}
		b.same()
		b.work(100)
		b.same()
		if t.Failed() {
			t.Fatalf("calls %v", script)
		}
		for c := 0; c < len(calls) && len(script) < 5; c++ {
			each(append(slices.Clone(script), c))
		}
	}
	each(nil)
}

// P8.1: many nodes come and go, so that free numbers lie here and there.
func TestDrawnManyNodes(t *testing.T) {
	draw := rand.New(rand.NewSource(9))
	b := both{t, color.New(), newModel()}
	for range 12 {
		for range draw.Intn(300) + 1 {
			b.node(draw.Intn(3))
		}
		live := b.m.look().live
		for range 100 {
			b.set(live[draw.Intn(len(live))], draw.Intn(2), live[draw.Intn(len(live))])
		}
		b.start(drawRoots(draw, live, len(live)/3))
		for b.m.phase != api.Idle {
			b.work(draw.Intn(60))
			if draw.Intn(3) == 0 {
				b.node(draw.Intn(3))
			}
		}
		b.same()
	}
}

// P8.4: drawn graphs: work cut into drawn pieces does what it does at one time.
func TestDrawnPieces(t *testing.T) {
	for seed := range int64(200) {
		whole, cut := drawnGraph(t, seed), drawnGraph(t, seed)
		draw := rand.New(rand.NewSource(seed + 1000))
		roots := drawRoots(draw, slices.Collect(whole.Live()), 3)
		whole.Start(roots)
		cut.Start(roots)
		left, want := whole.Work(1000)
		used, swept := 0, list()
		for cut.Phase() != api.Idle {
			units := draw.Intn(9) - 1
			l, some := cut.Work(units)
			used, swept = used+max(units, 0)-l, append(swept, some...)
		}
		if used != 1000-left || !slices.Equal(swept, want) || !sameState(look(cut), look(whole)) {
			t.Errorf("seed %d: %d units, %v, want %d, %v", seed, used, swept, 1000-left, want)
		}
	}
}

// drawnGraph answers a graph of up to ten nodes with drawn slots.
func drawnGraph(t *testing.T, seed int64) *color.Graph {
	t.Helper()
	draw := rand.New(rand.NewSource(seed))
	g := color.New()
	count := draw.Intn(10) + 1
	for range count {
		g.Node(draw.Intn(4))
	}
	for range 2 * count {
		g.Set(draw.Intn(count), draw.Intn(4), draw.Intn(count+1)-1)
	}
	return g
}

// cycle is what 'What follows' asks of a cycle: what there was at its Start, and what came since.
type cycle struct {
	start state
	kept  []int // roots, and what was written, held or shaded since
	made  []int
}

// survivors answers the live nodes at the end of Mark, as the chapter tells them, by layer 7.
func (c *cycle) survivors() []int {
	greatest := -1
	for _, n := range c.start.live {
		greatest = max(greatest, n)
	}
	net := make([][]int, greatest+1)
	for i, n := range c.start.live {
		net[n] = slices.DeleteFunc(slices.Clone(c.start.slots[i]), func(to int) bool { return to == -1 })
	}
	// Nodes that were made since live on by themselves, and at Start no slot named them.
	from := slices.DeleteFunc(slices.Clone(c.kept), func(n int) bool { return n == -1 || slices.Contains(c.made, n) })
	set, _ := reach.Set(net, from)
	out := slices.Clone(c.made)
	for n, is := range set {
		if is {
			out = append(out, n)
		}
	}
	slices.Sort(out)
	return out
}

// most answers how many units the cycle takes at most, where so many numbers were had by the end of Mark.
func (c *cycle) most(numbers int) int {
	units := len(c.start.live) + numbers + 2
	for _, slots := range c.start.slots {
		units += len(slots)
	}
	return units
}

// meddle makes a drawn change to a graph that is being marked, and notes what of it counts.
func (c *cycle) meddle(draw *rand.Rand, g *color.Graph) {
	live := slices.Collect(g.Live())
	if len(live) == 0 || draw.Intn(5) == 0 {
		if n, e := g.Node(draw.Intn(4)); e == api.OK {
			c.made = append(c.made, n)
		}
		return
	}
	n, slot, to := live[draw.Intn(len(live))], draw.Intn(4), append(live, -1)[draw.Intn(len(live)+1)]
	if draw.Intn(4) == 0 {
		g.Shade(n)
		c.kept = append(c.kept, n)
		return
	}
	held, _ := g.Slots(n)
	if g.Set(n, slot, to) == api.OK {
		c.kept = append(c.kept, held[slot], to)
	}
}

// What follows: just those nodes die, and a cycle takes no more units than the chapter says, over drawn scripts.
func TestWhatFollows(t *testing.T) {
	died, lived := 0, 0
	for seed := range int64(1500) {
		draw := rand.New(rand.NewSource(seed))
		g, numbers := drawnGraph(t, seed), 0
		for n := range g.Live() {
			numbers = max(numbers, n+1)
		}
		for range 3 {
			c := &cycle{start: look(g)}
			for _, n := range c.start.live {
				if draw.Intn(4) == 0 {
					c.kept = append(c.kept, n)
				}
			}
			wantStart(t, g, c.kept, api.OK)
			used := 0
			for g.Phase() == api.Mark {
				for range draw.Intn(3) * draw.Intn(2) {
					c.meddle(draw, g)
				}
				g.Work(1)
				used++
			}
			for _, n := range c.made {
				numbers = max(numbers, n+1)
			}
			want := c.survivors()
			wantLive(t, g, want...)
			left, swept := g.Work(1000)
			used += 1000 - left
			if used > c.most(numbers) {
				t.Errorf("%d units, at most %d", used, c.most(numbers))
			}
			gone := slices.DeleteFunc(slices.Clone(c.start.live), func(n int) bool { return slices.Contains(want, n) })
			if !slices.Equal(swept, gone) {
				t.Errorf("swept %v, want %v", swept, gone)
			}
			wantLive(t, g, want...)
			died, lived = died+len(gone), lived+len(want)
			if t.Failed() {
				t.Fatalf("seed %d", seed)
			}
		}
	}
	if died < 1000 || lived < 1000 {
		t.Errorf("%d died and %d lived: too few to tell anything", died, lived)
	}
}

// What follows: where all nodes are roots, a cycle takes just as many units as the chapter says at most.
func TestTheMostUnits(t *testing.T) {
	for seed := range int64(100) {
		g := drawnGraph(t, seed)
		c := &cycle{start: look(g)}
		wantStart(t, g, c.start.live, api.OK)
		wantUnits(t, g, c.most(len(c.start.live)))
		wantLive(t, g, c.start.live...)
	}
}

// What follows: a live node never names a dead one, so that no slot holds what is no live node's number.
func TestSlotsHoldLiveNodes(t *testing.T) {
	for seed := range int64(300) {
		draw := rand.New(rand.NewSource(seed))
		g, c := drawnGraph(t, seed), &cycle{}
		for range 60 {
			if g.Phase() == api.Idle {
				g.Start(drawRoots(draw, slices.Collect(g.Live()), 2))
			}
			c.meddle(draw, g)
			g.Work(draw.Intn(3))
			for n := range g.Live() {
				held, _ := g.Slots(n)
				for _, to := range held {
					if _, e := g.Color(to); to != -1 && e != api.OK {
						t.Fatalf("seed %d: node %d names %d, which is not live", seed, n, to)
					}
				}
			}
		}
	}
}

// R5, R7: what a graph answers hangs on its calls alone.
func TestSameCallsSameAnswers(t *testing.T) {
	told := func() []state {
		var all []state
		g := drawnGraph(t, 5)
		draw, c := rand.New(rand.NewSource(6)), &cycle{}
		for range 100 {
			g.Start(drawRoots(draw, slices.Collect(g.Live()), 2))
			c.meddle(draw, g)
			g.Work(draw.Intn(4))
			all = append(all, look(g))
		}
		return all
	}
	if a, b := told(), told(); !reflect.DeepEqual(a, b) {
		t.Errorf("%v, then %v", a, b)
	}
}
