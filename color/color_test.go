package color_test

import (
	"math"
	"reflect"
	"slices"
	"testing"

	"heddle/api"
	"heddle/color"
)

// Short names for colors; gone stands for a number that is no live node's.
const (
	gone  = 0
	white = api.White
	grey  = api.Grey
	black = api.Black
)

// list writes a list of numbers out.
func list(n ...int) []int { return n }

// upTo answers the numbers from 0 up to n, without n.
func upTo(n int) []int {
	all := make([]int, n)
	for i := range all {
		all[i] = i
	}
	return all
}

// empty answers so many slots that hold nothing.
func empty(slots int) []int { return slices.Repeat([]int{-1}, slots) }

// brief keeps long lists out of what a test tells.
func brief(l []int) []int { return l[:min(len(l), 20)] }

// build answers a graph of nodes, numbered from 0 on, with so many slots each.
func build(t *testing.T, slots ...int) *color.Graph {
	t.Helper()
	g := color.New()
	if g == nil {
		t.Fatal("New() = nil")
	}
	for n, s := range slots {
		wantNode(t, g, s, n, api.OK)
	}
	return g
}

// net answers a graph whose node i has slots that hold list i.
func net(t *testing.T, held ...[]int) *color.Graph {
	t.Helper()
	g := color.New()
	for n, slots := range held {
		wantNode(t, g, len(slots), n, api.OK)
	}
	for n, slots := range held {
		for slot, to := range slots {
			wantSet(t, g, n, slot, to, api.OK)
		}
	}
	return g
}

func wantNode(t *testing.T, g *color.Graph, slots, n int, want api.Errno) {
	t.Helper()
	if got, e := g.Node(slots); got != n || e != want {
		t.Errorf("Node(%d) = %d, %d, want %d, %d", slots, got, e, n, want)
	}
}

func wantSlots(t *testing.T, g *color.Graph, n int, slots []int, want api.Errno) {
	t.Helper()
	if got, e := g.Slots(n); !slices.Equal(got, slots) || e != want {
		t.Errorf("Slots(%d) = %v, %d, want %v, %d", n, brief(got), e, brief(slots), want)
	}
}

func wantSet(t *testing.T, g *color.Graph, n, slot, to int, want api.Errno) {
	t.Helper()
	if e := g.Set(n, slot, to); e != want {
		t.Errorf("Set(%d, %d, %d) = %d, want %d", n, slot, to, e, want)
	}
}

func wantShade(t *testing.T, g *color.Graph, n int, want api.Errno) {
	t.Helper()
	if e := g.Shade(n); e != want {
		t.Errorf("Shade(%d) = %d, want %d", n, e, want)
	}
}

func wantStart(t *testing.T, g *color.Graph, roots []int, want api.Errno) {
	t.Helper()
	if e := g.Start(roots); e != want {
		t.Errorf("Start(%v) = %d, want %d", brief(roots), e, want)
	}
}

func wantWork(t *testing.T, g *color.Graph, units, left int, swept ...int) {
	t.Helper()
	if got, list := g.Work(units); got != left || !slices.Equal(list, swept) {
		t.Errorf("Work(%d) = %d, %v, want %d, %v", units, got, brief(list), left, brief(swept))
	}
}

func wantColor(t *testing.T, g *color.Graph, n, c int, want api.Errno) {
	t.Helper()
	if got, e := g.Color(n); got != c || e != want {
		t.Errorf("Color(%d) = %d, %d, want %d, %d", n, got, e, c, want)
	}
}

// wantColors asks for the colors of the nodes from 0 on, and whether there are no others.
func wantColors(t *testing.T, g *color.Graph, colors ...int) {
	t.Helper()
	var live []int
	for n, c := range colors {
		if c == gone {
			wantColor(t, g, n, 0, api.ErrNone)
			continue
		}
		wantColor(t, g, n, c, api.OK)
		live = append(live, n)
	}
	wantLive(t, g, live...)
}

func wantPhase(t *testing.T, g *color.Graph, phase, cycles int) {
	t.Helper()
	if p, c := g.Phase(), g.Cycles(); p != phase || c != cycles {
		t.Errorf("phase %d, cycles %d, want %d, %d", p, c, phase, cycles)
	}
}

func wantLive(t *testing.T, g *color.Graph, live ...int) {
	t.Helper()
	it := g.Live()
	if it == nil {
		t.Fatal("Live() = nil")
	}
	if got := slices.Collect(it); !slices.Equal(got, live) {
		t.Errorf("Live: %v, want %v", brief(got), brief(live))
	}
}

// state is what can be seen of a graph.
type state struct {
	phase, cycles int
	live, colors  []int
	slots         [][]int
}

func look(g *color.Graph) state {
	s := state{phase: g.Phase(), cycles: g.Cycles()}
	for n := range g.Live() {
		c, _ := g.Color(n)
		held, _ := g.Slots(n)
		s.live, s.colors, s.slots = append(s.live, n), append(s.colors, c), append(s.slots, held)
	}
	return s
}

// wantSameFuture asks whether two graphs look the same and stay so unit by unit, till neither has any work, and with the nodes that come then.
func wantSameFuture(t *testing.T, a, b *color.Graph) {
	t.Helper()
	for first := true; first || a.Phase() != api.Idle; first = false {
		if x, y := look(a), look(b); !reflect.DeepEqual(x, y) {
			t.Fatalf("%v, but %v", x, y)
		}
		left, swept := b.Work(1)
		wantWork(t, a, 1, left, swept...)
	}
	for range 4 {
		n, e := b.Node(1)
		wantNode(t, a, 1, n, e)
	}
	if x, y := look(a), look(b); !reflect.DeepEqual(x, y) {
		t.Fatalf("at the end %v, but %v", x, y)
	}
}

// blackening answers the nodes in the order in which they become Black from now on, up to the end of the phase Mark: the line's order.
func blackening(g *color.Graph) []int {
	var order []int
	before := look(g)
	for g.Phase() == api.Mark {
		g.Work(1)
		now := look(g)
		for i, n := range now.live {
			if at := slices.Index(before.live, n); now.colors[i] == black && before.colors[at] != black {
				order = append(order, n)
			}
		}
		before = now
	}
	return order
}

func wantBlackening(t *testing.T, g *color.Graph, want ...int) {
	t.Helper()
	if got := blackening(g); !slices.Equal(got, want) {
		t.Errorf("became Black: %v, want %v", got, want)
	}
}

// units answers how many units of work there are up to the end of the cycle, which is carried out.
func units(g *color.Graph) int {
	left, _ := g.Work(1 << 30)
	return 1<<30 - left
}

func wantUnits(t *testing.T, g *color.Graph, want int) {
	t.Helper()
	if got := units(g); got != want {
		t.Errorf("%d units of work, want %d", got, want)
	}
}

// world answers a graph in a phase, with one of each kind of number: 5 was swept in an earlier cycle.
// Idle: all others are live. Mark: all others are live, 0 Grey and one of its slots looked at, 3 and 1 Grey, the others White.
// Sweep: 2 was swept in this cycle, 4 and 6 are dead, the place is 3. Nodes 0, 1 and 3 live in all phases.
func world(t *testing.T, phase int) *color.Graph {
	t.Helper()
	g := build(t, 2, 1, 0, 1, 3, 0, 1)
	wantStart(t, g, list(0, 1, 2, 3, 4, 6), api.OK)
	g.Work(1000)
	for _, s := range [][3]int{{0, 0, 1}, {0, 1, 0}, {1, 0, 3}, {4, 0, 2}, {4, 2, 4}, {6, 0, 1}} {
		wantSet(t, g, s[0], s[1], s[2], api.OK)
	}
	if phase == api.Idle {
		wantColors(t, g, black, black, black, black, black, gone, black)
		return g
	}
	wantStart(t, g, list(0, 3), api.OK)
	wantWork(t, g, 1, 0)
	if phase == api.Mark {
		wantColors(t, g, grey, grey, white, grey, white, gone, white)
		return g
	}
	for g.Phase() == api.Mark {
		g.Work(1)
	}
	wantWork(t, g, 3, 0, 2)
	wantColors(t, g, black, black, gone, black, gone, gone, gone)
	return g
}

// phases lists all of them.
func phases() []int { return list(api.Idle, api.Mark, api.Sweep) }

// boolean is 1 for true.
func boolean(b bool) int {
	if b {
		return 1
	}
	return 0
}

// never answers numbers that no node of the world has had.
func never() []int {
	return []int{math.MinInt, math.MinInt + 1, math.MinInt32, -1 << 32, -api.MaxNodes, -8, -7, -2,
		7, 8, 15, api.MaxNodes - 1, api.MaxNodes, api.MaxNodes + 1, math.MaxInt32, 1 << 32, 1<<32 + 3, math.MaxInt - 1, math.MaxInt}
}

// strange answers numbers, beside -1, that are no live node's of the world in a phase.
func strange(phase int) []int {
	if phase == api.Sweep {
		return append(never(), 5, 2, 4, 6)
	}
	return append(never(), 5)
}

// The chapter's first example.
func TestFirstExample(t *testing.T) {
	g := build(t, 1, 1, 0)
	wantSet(t, g, 0, 0, 1, api.OK)
	wantStart(t, g, list(0), api.OK)
	wantColors(t, g, grey, white, white)
	wantWork(t, g, 1, 0)
	wantColors(t, g, grey, grey, white)
	wantSet(t, g, 0, 0, -1, api.OK)
	wantColors(t, g, grey, grey, white)
	wantSet(t, g, 1, 0, 2, api.OK)
	wantColors(t, g, grey, grey, grey)
	wantPhase(t, g, api.Mark, 0)
	wantWork(t, g, 100, 91)
	wantPhase(t, g, api.Idle, 1)
	wantColors(t, g, black, black, black)
	wantSlots(t, g, 0, list(-1), api.OK)
	wantSlots(t, g, 1, list(2), api.OK)
}

// The chapter's second example.
func TestSecondExample(t *testing.T) {
	g := build(t, 1, 1, 0)
	wantSet(t, g, 0, 0, 1, api.OK)
	wantStart(t, g, list(0), api.OK)
	wantWork(t, g, 100, 91, 2)
	wantPhase(t, g, api.Idle, 1)
	wantColors(t, g, black, black, gone)
	wantNode(t, g, 0, 2, api.OK)
}

// P8.1: a new graph has nothing. So has the zero value.
func TestNew(t *testing.T) {
	for _, g := range []*color.Graph{build(t), {}} {
		wantPhase(t, g, api.Idle, 0)
		wantLive(t, g)
		wantWork(t, g, 5, 5)
		for _, n := range append(never(), -1, 0, 1) {
			wantSlots(t, g, n, nil, api.ErrNone)
			wantColor(t, g, n, 0, api.ErrNone)
			wantShade(t, g, n, api.ErrNone)
			wantSet(t, g, n, 0, -1, api.ErrNone)
			wantStart(t, g, list(n), api.ErrNone)
		}
		wantPhase(t, g, api.Idle, 0)
		wantNode(t, g, 0, 0, api.OK)
	}
}

// P8.3, P8.4: without nodes a cycle takes two units.
func TestCycleWithoutNodes(t *testing.T) {
	for _, roots := range [][]int{nil, {}} {
		for _, g := range []*color.Graph{build(t), {}} {
			for cycle := range 3 {
				wantStart(t, g, roots, api.OK)
				wantPhase(t, g, api.Mark, cycle)
				wantWork(t, g, 1, 0)
				wantPhase(t, g, api.Sweep, cycle)
				wantWork(t, g, 1, 0)
				wantPhase(t, g, api.Idle, cycle+1)
				wantWork(t, g, 1, 1)
				wantLive(t, g)
			}
			wantStart(t, g, roots, api.OK)
			wantWork(t, g, 10, 8)
			wantNode(t, g, 0, 0, api.OK)
		}
	}
}

// P8.4: the first node of all comes while marking, or while sweeping, when its end is 0.
func TestFirstNodeWithinACycle(t *testing.T) {
	g := build(t)
	wantStart(t, g, nil, api.OK)
	wantNode(t, g, 1, 0, api.OK)
	wantWork(t, g, 10, 7)
	wantColors(t, g, black)
	g = build(t)
	wantStart(t, g, nil, api.OK)
	wantWork(t, g, 1, 0)
	wantNode(t, g, 1, 0, api.OK)
	wantWork(t, g, 10, 9)
	wantPhase(t, g, api.Idle, 1)
	wantColors(t, g, black)
}

// P8.1: from no slot to as many as there can be.
func TestNodesOfAllSizes(t *testing.T) {
	g := build(t)
	for n, slots := range []int{0, 1, 2, 3, 64, 255, api.MaxSlots - 1, api.MaxSlots} {
		wantNode(t, g, slots, n, api.OK)
		wantSlots(t, g, n, empty(slots), api.OK)
		wantColor(t, g, n, black, api.OK)
		wantSet(t, g, n, slots, -1, api.ErrRange)
		wantSet(t, g, n, slots, n, api.ErrRange)
		if slots > 0 {
			wantSet(t, g, n, slots-1, n, api.OK)
			wantSlots(t, g, n, append(empty(slots-1), n), api.OK)
		}
	}
	wantLive(t, g, upTo(8)...)
}

// P8.1, R2, R3: wrong numbers of slots, in each phase, and where the graph is full too.
func TestNodesOfWrongSizes(t *testing.T) {
	wrong := []int{math.MinInt, math.MinInt + 1, math.MinInt32, -api.MaxSlots, -2, -1,
		api.MaxSlots + 1, 2 * api.MaxSlots, api.MaxNodes, math.MaxInt32, 1 << 32, 1<<32 + 1, math.MaxInt - 1, math.MaxInt}
	for _, phase := range phases() {
		g := world(t, phase)
		for _, slots := range wrong {
			wantNode(t, g, slots, 0, api.ErrArg)
		}
		wantSameFuture(t, g, world(t, phase))
	}
	g := color.New()
	for range api.MaxNodes {
		g.Node(0)
	}
	for _, slots := range wrong {
		wantNode(t, g, slots, 0, api.ErrArg)
	}
	wantNode(t, g, 0, 0, api.ErrFull)
	wantNode(t, g, api.MaxSlots, 0, api.ErrFull)
}

// P8.1: as many nodes as there can be, live or dead, and one more.
func TestMaxNodes(t *testing.T) {
	g := color.New()
	for n := range api.MaxNodes {
		wantNode(t, g, n%2, n, api.OK)
	}
	last := api.MaxNodes - 1
	wantNode(t, g, 0, 0, api.ErrFull)
	wantLive(t, g, upTo(api.MaxNodes)...)
	wantSet(t, g, last, 0, last, api.OK)
	wantSet(t, g, last, 0, api.MaxNodes, api.ErrNone)
	wantSlots(t, g, last, list(last), api.OK)
	wantStart(t, g, list(last), api.OK)
	wantNode(t, g, 0, 0, api.ErrFull)
	wantWork(t, g, 3, 0)
	wantPhase(t, g, api.Sweep, 0)
	wantLive(t, g, last)
	wantNode(t, g, 0, 0, api.ErrFull)
	wantWork(t, g, 2, 0, 0, 1)
	wantNode(t, g, 0, 0, api.OK)
	wantNode(t, g, 0, 1, api.OK)
	wantNode(t, g, 0, 0, api.ErrFull)
	wantWork(t, g, 1<<20, 1<<20-(api.MaxNodes-1), upTo(last)[2:]...)
	wantLive(t, g, 0, 1, last)
	for n := 2; n < last; n++ {
		wantNode(t, g, 0, n, api.OK)
	}
	wantNode(t, g, 0, 0, api.ErrFull)
	wantStart(t, g, nil, api.OK)
	wantWork(t, g, 1<<20, 1<<20-api.MaxNodes-2, upTo(api.MaxNodes)...)
	wantLive(t, g)
	wantNode(t, g, 0, 0, api.OK)
}

// P8.1: the numbers of swept nodes come again, the least first, in whichever cycle they were swept; then greater ones.
func TestNumbersComeAgain(t *testing.T) {
	g := build(t, 0, 0, 0, 0, 0, 0, 0, 0)
	wantStart(t, g, list(0, 1, 2, 4, 7), api.OK)
	wantWork(t, g, 100, 100-5-1-8-1, 3, 5, 6)
	wantNode(t, g, 0, 3, api.OK)
	wantStart(t, g, list(3, 7, 1), api.OK)
	wantWork(t, g, 100, 100-3-1-8-1, 0, 2, 4)
	wantLive(t, g, 1, 3, 7)
	for _, n := range []int{0, 2, 4, 5, 6, 8, 9} {
		wantNode(t, g, n, n, api.OK)
		wantSlots(t, g, n, empty(n), api.OK)
	}
	wantLive(t, g, upTo(10)...)
}

// P8.1, P8.2: who gets a number again has nothing of who had it.
func TestNumbersComeAgainWithoutWhatWasThere(t *testing.T) {
	g := net(t, list(1), list(0, 1, 0), list(-1))
	wantStart(t, g, list(2), api.OK)
	wantWork(t, g, 100, 100-2-1-3-1, 0, 1)
	wantNode(t, g, 3, 0, api.OK)
	wantNode(t, g, 1, 1, api.OK)
	wantSlots(t, g, 0, empty(3), api.OK)
	wantSlots(t, g, 1, empty(1), api.OK)
	wantSlots(t, g, 2, empty(1), api.OK)
	wantSet(t, g, 0, 2, 1, api.OK)
	wantStart(t, g, list(0), api.OK)
	wantUnits(t, g, 6+1+3+1)
	wantColors(t, g, black, black, gone)
}

// P8.1, P8.2: a dead node has its number till it is swept, but is live no more.
func TestDeadNodes(t *testing.T) {
	g := net(t, list(-1), list(0), list(1), list(2, 3))
	wantStart(t, g, list(0), api.OK)
	wantWork(t, g, 3, 0)
	wantPhase(t, g, api.Sweep, 0)
	wantColors(t, g, black, gone, gone, gone)
	for place, n := range []int{4, 5, 1, 2, 3} {
		for dead := max(place, 1); dead < 4; dead++ {
			wantSlots(t, g, dead, nil, api.ErrNone)
			wantShade(t, g, dead, api.ErrNone)
			wantSet(t, g, dead, 0, -1, api.ErrNone)
			wantSet(t, g, 0, 0, dead, api.ErrNone)
		}
		wantNode(t, g, 0, n, api.OK)
		wantColor(t, g, n, black, api.OK)
		if 0 < place && place < 4 {
			wantWork(t, g, 1, 0, place)
		} else {
			wantWork(t, g, 1, 0)
		}
	}
	wantPhase(t, g, api.Idle, 1)
	wantColors(t, g, black, black, black, black, black, black)
}

// P8.1, P8.4: a node that comes while marking is Black, stands in no line, and outlives the cycle, though nothing reaches it.
func TestNodesMadeWhileMarking(t *testing.T) {
	g := net(t, list(1), nil, nil)
	wantStart(t, g, list(0), api.OK)
	wantNode(t, g, 2, 3, api.OK)
	wantColors(t, g, grey, white, white, black)
	wantSlots(t, g, 3, empty(2), api.OK)
	wantSet(t, g, 3, 0, 1, api.OK)
	wantColors(t, g, grey, grey, white, black)
	wantSet(t, g, 1, 0, 3, api.ErrRange)
	wantSet(t, g, 0, 0, 3, api.OK)
	wantColors(t, g, grey, grey, white, black)
	wantShade(t, g, 3, api.OK)
	wantColors(t, g, grey, grey, white, black)
	// The slot and the node 0, the node 1, the end of Mark, four numbers, the end.
	wantWork(t, g, 100, 100-3-1-4-1, 2)
	wantColors(t, g, black, black, gone, black)
	// In the next cycle it is as the others.
	wantStart(t, g, list(1), api.OK)
	wantColors(t, g, white, grey, gone, white)
	wantWork(t, g, 100, 100-1-1-4-1, 0, 3)
}

// P8.1, P8.4: nodes that come while sweeping are Black and outlive the cycle, ahead of the place, behind it and behind the end, which stays where it is.
func TestNodesMadeWhileSweeping(t *testing.T) {
	g := world(t, api.Sweep)
	wantNode(t, g, 1, 2, api.OK)
	wantNode(t, g, 1, 5, api.OK)
	wantNode(t, g, 1, 7, api.OK)
	wantNode(t, g, 1, 8, api.OK)
	wantColors(t, g, black, black, black, black, gone, black, gone, black, black)
	wantWork(t, g, 2, 0, 4)
	wantNode(t, g, 1, 4, api.OK)
	wantNode(t, g, 1, 9, api.OK)
	wantWork(t, g, 2, 0, 6)
	wantPhase(t, g, api.Sweep, 1)
	wantNode(t, g, 1, 6, api.OK)
	wantWork(t, g, 1, 0)
	wantPhase(t, g, api.Idle, 2)
	wantLive(t, g, upTo(10)...)
	// In the next cycle they are as the others, and its end is behind them.
	wantStart(t, g, list(9), api.OK)
	wantWork(t, g, 100, 100-2-1-10-1, upTo(9)...)
}

// P8.4: the end is behind the greatest number that any node has had, though that node is gone long since.
func TestSweepGoesUpToTheGreatestNumberEver(t *testing.T) {
	g := build(t, 0, 0, 0, 0)
	wantStart(t, g, list(0), api.OK)
	wantWork(t, g, 100, 100-1-1-4-1, 1, 2, 3)
	for range 3 {
		wantStart(t, g, list(0), api.OK)
		wantUnits(t, g, 1+1+4+1)
	}
	wantStart(t, g, nil, api.OK)
	wantWork(t, g, 100, 100-1-4-1, 0)
	wantStart(t, g, nil, api.OK)
	wantUnits(t, g, 1+4+1)
	wantNode(t, g, 0, 0, api.OK)
	wantStart(t, g, nil, api.OK)
	wantWork(t, g, 100, 100-1-4-1, 0)
}

// P8.2: slots are written one by one, with nodes, the node itself and nothing.
func TestSetAndSlots(t *testing.T) {
	g := build(t, 3, 1, 0)
	wantSet(t, g, 0, 1, 2, api.OK)
	wantSlots(t, g, 0, list(-1, 2, -1), api.OK)
	wantSet(t, g, 0, 0, 0, api.OK)
	wantSet(t, g, 0, 2, 2, api.OK)
	wantSlots(t, g, 0, list(0, 2, 2), api.OK)
	wantSet(t, g, 0, 1, -1, api.OK)
	wantSet(t, g, 1, 0, 0, api.OK)
	wantSlots(t, g, 0, list(0, -1, 2), api.OK)
	wantSlots(t, g, 1, list(0), api.OK)
	wantSlots(t, g, 2, nil, api.OK)
	wantColors(t, g, black, black, black)
}

// P8.2, P8.4: a node that names itself, and one that names another twice: each slot takes a unit, but each node stands in the line once.
func TestNamedTwice(t *testing.T) {
	g := net(t, list(0, 0), list(2, 2), list(1, 2), list(0))
	wantStart(t, g, list(0), api.OK)
	wantWork(t, g, 100, 100-3-1-4-1, 1, 2, 3)
	g = net(t, list(0, 0), list(2, 2), list(1, 2), list(0))
	wantStart(t, g, list(1), api.OK)
	wantBlackening(t, g, 1, 2)
	wantWork(t, g, 100, 95, 0, 3)
	// What names itself alone is not reached by that.
	g = net(t, list(0), list(1, 1))
	wantStart(t, g, nil, api.OK)
	wantWork(t, g, 100, 100-1-2-1, 0, 1)
}

// P8.2: what the slot held, and then what it is to hold, are shaded, White ones alone, whatever color the written node has.
func TestSetShadesWhileMarking(t *testing.T) {
	cases := []struct {
		held, to int
		shaded   []int
	}{
		{-1, -1, nil}, {-1, 2, list(2)}, {-1, 3, list(3)},
		{2, -1, list(2)}, {2, 3, list(2, 3)}, {3, 2, list(3, 2)}, {2, 2, list(2)}, {3, 3, list(3)},
		{0, 2, list(2)}, {2, 0, list(2)}, {0, 0, nil}, {0, -1, nil}, {-1, 0, nil},
		{1, 2, list(1, 2)}, {2, 1, list(2, 1)}, {1, 1, list(1)}, {-1, 1, list(1)}, {1, -1, list(1)},
	}
	for _, c := range cases {
		// 0 is Grey, 1 is White and is written, 2 and 3 are White.
		g := build(t, 0, 2, 0, 0)
		wantSet(t, g, 1, 1, c.held, api.OK)
		wantStart(t, g, list(0), api.OK)
		wantSet(t, g, 1, 1, c.to, api.OK)
		wantSlots(t, g, 1, list(-1, c.to), api.OK)
		want := list(grey, white, white, white)
		for _, n := range c.shaded {
			want[n] = grey
		}
		wantColors(t, g, want...)
		line := append(list(0), c.shaded...)
		wantBlackening(t, g, line...)
		wantLive(t, g, slices.Sorted(slices.Values(line))...)
	}
}

// P8.2: written nodes that are Grey or Black; the slot is looked at already, or not yet.
func TestSetOfLookedAtSlots(t *testing.T) {
	// Not looked at yet: the new one is found there, which was shaded already.
	g := net(t, list(1, -1), nil, nil)
	wantStart(t, g, list(0), api.OK)
	wantSet(t, g, 0, 0, 2, api.OK)
	wantColors(t, g, grey, grey, grey)
	wantBlackening(t, g, 0, 1, 2)
	// Looked at already: it is not looked at again.
	g = net(t, list(-1, -1), nil, nil)
	wantStart(t, g, list(0), api.OK)
	wantWork(t, g, 1, 0)
	wantSet(t, g, 0, 0, 2, api.OK)
	wantColors(t, g, grey, white, grey)
	wantWork(t, g, 2, 0)
	wantColors(t, g, black, white, grey)
	// A Black one stays so, and is not looked at again.
	wantSet(t, g, 0, 1, 1, api.OK)
	wantColors(t, g, black, grey, grey)
	wantBlackening(t, g, 2, 1)
	wantWork(t, g, 100, 96)
	wantColors(t, g, black, black, black)
}

// P8.2: a Black node that is named does not become Grey again, whether it is held or written.
func TestSetLeavesBlackNodes(t *testing.T) {
	g := net(t, nil, list(0), list(-1))
	wantStart(t, g, list(0, 2), api.OK)
	wantWork(t, g, 1, 0)
	wantColors(t, g, black, white, grey)
	wantSet(t, g, 1, 0, -1, api.OK)
	wantSet(t, g, 2, 0, 0, api.OK)
	wantSet(t, g, 2, 0, 2, api.OK)
	wantColors(t, g, black, white, grey)
	wantBlackening(t, g, 2)
	wantLive(t, g, 0, 2)
}

// P8.2: in the other phases nothing is shaded by Set and Shade: all live nodes are Black, before and behind, and no line comes of it.
func TestNothingIsShadedInOtherPhases(t *testing.T) {
	for _, phase := range []int{api.Idle, api.Sweep} {
		g, plain := world(t, phase), world(t, phase)
		for _, n := range []int{0, 1, 3} {
			wantSet(t, g, 0, 1, n, api.OK)
			wantShade(t, g, n, api.OK)
			wantColor(t, g, n, black, api.OK)
		}
		wantSet(t, g, 0, 1, 0, api.OK)
		wantSameFuture(t, g, plain)
		wantStart(t, g, nil, api.OK)
		for n := range g.Live() {
			wantColor(t, g, n, white, api.OK)
		}
		wantWork(t, g, 1, 0)
		if g.Phase() != api.Sweep {
			t.Errorf("phase %d behind a unit with nothing in the line", g.Phase())
		}
		wantLive(t, g)
	}
}

// P8.2: Shade makes White nodes Grey, in the order in which it is called, and no others.
func TestShade(t *testing.T) {
	g := net(t, nil, nil, list(4), nil, nil, nil)
	wantStart(t, g, list(0, 1), api.OK)
	wantWork(t, g, 1, 0)
	wantColors(t, g, black, grey, white, white, white, white)
	for _, n := range []int{3, 2, 3, 0, 1, 2} {
		wantShade(t, g, n, api.OK)
	}
	wantColors(t, g, black, grey, grey, grey, white, white)
	wantBlackening(t, g, 1, 3, 2, 4)
	wantLive(t, g, 0, 1, 2, 3, 4)
}

// P8.3: all live nodes are White, but the roots, which are Grey and stand in the line in their order, each once.
func TestStart(t *testing.T) {
	cases := []struct{ roots, line []int }{
		{nil, nil}, {list(), nil}, {list(2), list(2)},
		{list(0, 1, 2, 3), list(0, 1, 2, 3)}, {list(3, 2, 1, 0), list(3, 2, 1, 0)}, {list(2, 0, 3), list(2, 0, 3)},
		{list(1, 1), list(1)}, {list(3, 1, 3, 3, 0, 1, 0), list(3, 1, 0)},
	}
	for _, c := range cases {
		g := build(t, 0, 0, 0, 0)
		wantStart(t, g, c.roots, api.OK)
		wantPhase(t, g, api.Mark, 0)
		want := list(white, white, white, white)
		for _, n := range c.roots {
			want[n] = grey
		}
		wantColors(t, g, want...)
		wantBlackening(t, g, c.line...)
		wantLive(t, g, slices.Sorted(slices.Values(c.line))...)
	}
}

// P8.3, P8.4: what a root names stands behind all roots, also where it is a root itself.
func TestLineOrder(t *testing.T) {
	g := net(t, list(4, 3), list(0, 5), nil, list(2), nil, nil)
	wantStart(t, g, list(1, 3), api.OK)
	wantBlackening(t, g, 1, 3, 0, 5, 2, 4)
	g = net(t, list(4, 3), list(0, 5), nil, list(2), nil, nil)
	wantStart(t, g, list(1, 0), api.OK)
	wantBlackening(t, g, 1, 0, 5, 4, 3, 2)
}

// P8.3, R2, R3: roots that are no live nodes, wherever they stand; in the phases in which there can't be a Start, ErrPhase comes first.
func TestStartOfWrongRoots(t *testing.T) {
	for _, phase := range phases() {
		g := world(t, phase)
		for _, n := range append(strange(phase), -1) {
			for _, roots := range [][]int{{n}, {n, 0}, {0, n}, {3, n, 1}, {n, n}} {
				want := api.ErrPhase
				if phase == api.Idle {
					want = api.ErrNone
				}
				wantStart(t, g, roots, want)
			}
		}
		wantSameFuture(t, g, world(t, phase))
	}
}

// P8.3, R3: there is no Start in the phases Mark and Sweep, up to their last units.
func TestStartInOtherPhases(t *testing.T) {
	g, plain := net(t, list(1, -1), nil, nil), net(t, list(1, -1), nil, nil)
	for cycle := range 2 {
		wantStart(t, g, list(0), api.OK)
		wantStart(t, plain, list(0), api.OK)
		for g.Phase() != api.Idle {
			for _, roots := range [][]int{nil, {}, {0}, {0, 1}} {
				wantStart(t, g, roots, api.ErrPhase)
			}
			if a, b := look(g), look(plain); !reflect.DeepEqual(a, b) {
				t.Fatalf("%v, but %v", a, b)
			}
			left, swept := plain.Work(1)
			wantWork(t, g, 1, left, swept...)
		}
		wantPhase(t, g, api.Idle, cycle+1)
	}
	wantSameFuture(t, g, plain)
}

// P8.4: each unit by itself.
func TestUnits(t *testing.T) {
	g := net(t, list(-1, 2, 0), nil, list(2), nil)
	wantStart(t, g, list(0), api.OK)
	steps := []struct {
		phase  int
		swept  []int
		colors []int
	}{
		{api.Mark, nil, list(grey, white, white, white)},   // a slot that holds nothing
		{api.Mark, nil, list(grey, white, grey, white)},    // one that holds a White node
		{api.Mark, nil, list(grey, white, grey, white)},    // one that holds the node itself
		{api.Mark, nil, list(black, white, grey, white)},   // no slot is left
		{api.Mark, nil, list(black, white, grey, white)},   // the slot of 2
		{api.Mark, nil, list(black, white, black, white)},  // the line gets empty
		{api.Sweep, nil, list(black, gone, black, gone)},   // it is
		{api.Sweep, nil, list(black, gone, black, gone)},   // 0
		{api.Sweep, list(1), list(black, gone, black)},     // 1
		{api.Sweep, nil, list(black, gone, black)},         // 2
		{api.Sweep, list(3), list(black, gone, black)},     // 3, the last number
		{api.Idle, nil, list(black, gone, black)},          // the end
		{api.Idle, nil, list(black, gone, black, 0, 0, 0)}, // no work any more
	}
	for i, s := range steps {
		left := 0
		if i == len(steps)-1 {
			left = 1
		}
		wantWork(t, g, 1, left, s.swept...)
		wantPhase(t, g, s.phase, boolean(s.phase == api.Idle))
		wantColors(t, g, s.colors...)
		if t.Failed() {
			t.Fatalf("unit %d", i)
		}
	}
}

// P8.4: a node of many slots takes a unit for each of them and one more; one of none takes one.
func TestUnitsOfManySlots(t *testing.T) {
	g := build(t, api.MaxSlots, 0)
	wantSet(t, g, 0, api.MaxSlots-1, 1, api.OK)
	wantStart(t, g, list(0), api.OK)
	wantWork(t, g, api.MaxSlots-1, 0)
	wantColors(t, g, grey, white)
	wantWork(t, g, 1, 0)
	wantColors(t, g, grey, grey)
	wantWork(t, g, 1, 0)
	wantColors(t, g, black, grey)
	wantWork(t, g, 1, 0)
	wantColors(t, g, black, black)
	wantPhase(t, g, api.Mark, 0)
	wantWork(t, g, 4, 0)
	wantPhase(t, g, api.Idle, 1)
}

// P8.4: units below 0, none, and more than there is work; in the phase Idle none is used.
func TestWorkOfAnyUnits(t *testing.T) {
	for _, phase := range phases() {
		g := world(t, phase)
		for _, units := range []int{0, -1, -2, math.MinInt32, math.MinInt + 1, math.MinInt} {
			wantWork(t, g, units, 0)
		}
		wantSameFuture(t, g, world(t, phase))
		for _, units := range []int{1, 2, 100, math.MaxInt32, 1 << 40, math.MaxInt - 1, math.MaxInt} {
			g := world(t, phase)
			need, swept := 0, list()
			switch phase {
			case api.Mark: // a slot and the node 0; a slot and a node of 3 and 1; the end; seven numbers; the end
				need, swept = 2+2+2+1+7+1, list(2, 4, 6)
			case api.Sweep: // the numbers from 3 to 6, and the end
				need, swept = 5, list(4, 6)
			}
			if units < need {
				swept = swept[:boolean(phase == api.Sweep && units > 1)]
			}
			wantWork(t, g, units, max(units-need, 0), swept...)
		}
	}
	g := world(t, api.Idle)
	wantWork(t, g, math.MaxInt, math.MaxInt)
	wantSameFuture(t, g, world(t, api.Idle))
}

// P8.4: work in pieces of any size does what it does at one time.
func TestWorkInPieces(t *testing.T) {
	at := func(phase int) (int, []int, state) {
		g := world(t, phase)
		left, swept := g.Work(1000)
		return 1000 - left, swept, look(g)
	}
	for _, phase := range []int{api.Mark, api.Sweep} {
		need, swept, end := at(phase)
		for size := 1; size <= need+1; size++ {
			g := world(t, phase)
			var all []int
			used := 0
			for g.Phase() != api.Idle {
				left, some := g.Work(size)
				all, used = append(all, some...), used+size-left
				if left > 0 && g.Phase() != api.Idle {
					t.Fatalf("%d of %d units left, and the phase is %d", left, size, g.Phase())
				}
			}
			if used != need || !slices.Equal(all, swept) || !reflect.DeepEqual(look(g), end) {
				t.Errorf("by %d: %d, %v, %v, want %d, %v, %v", size, used, all, look(g), need, swept, end)
			}
		}
	}
}

// P8.5: Phase and Cycles through several cycles.
func TestPhaseAndCycles(t *testing.T) {
	g := build(t, 1, 0)
	for cycle := range 5 {
		wantPhase(t, g, api.Idle, cycle)
		wantStart(t, g, list(0), api.OK)
		wantPhase(t, g, api.Mark, cycle)
		wantWork(t, g, 2, 0)
		wantPhase(t, g, api.Mark, cycle)
		wantWork(t, g, 1, 0)
		wantPhase(t, g, api.Sweep, cycle)
		g.Work(2)
		wantPhase(t, g, api.Sweep, cycle)
		wantWork(t, g, 1, 0)
	}
	wantPhase(t, g, api.Idle, 5)
}

// P8.2, R2, R3: numbers that are no live node's, as n and as to, in each phase; -1 is right as to alone.
func TestWrongNodes(t *testing.T) {
	for _, phase := range phases() {
		g := world(t, phase)
		for _, n := range append(strange(phase), -1) {
			wantSlots(t, g, n, nil, api.ErrNone)
			wantColor(t, g, n, 0, api.ErrNone)
			wantShade(t, g, n, api.ErrNone)
			for _, slot := range []int{math.MinInt, -1, 0, 1, 2, math.MaxInt} {
				for _, to := range []int{-1, 0, 3, n} {
					wantSet(t, g, n, slot, to, api.ErrNone)
				}
				if n != -1 {
					wantSet(t, g, 0, slot, n, api.ErrNone)
					wantSet(t, g, 3, slot, n, api.ErrNone)
				}
			}
		}
		wantSameFuture(t, g, world(t, phase))
	}
}

// P8.2, R2, R3: slots that a node does not have, in each phase: nothing is shaded then.
func TestWrongSlots(t *testing.T) {
	for _, phase := range phases() {
		g := world(t, phase)
		for n, slots := range map[int]int{0: 2, 1: 1, 3: 1} {
			for _, slot := range []int{math.MinInt, math.MinInt + 1, math.MinInt32, -slots - 1, -slots, -1,
				slots, slots + 1, api.MaxSlots - 1, api.MaxSlots, math.MaxInt32, 1 << 32, 1<<32 + slots - 1, math.MaxInt - 1, math.MaxInt} {
				for _, to := range slices.Collect(g.Live()) {
					wantSet(t, g, n, slot, to, api.ErrRange)
				}
				wantSet(t, g, n, slot, -1, api.ErrRange)
				for _, to := range strange(phase) {
					wantSet(t, g, n, slot, to, api.ErrNone)
				}
			}
		}
		wantSameFuture(t, g, world(t, phase))
	}
	g := build(t, 0)
	for _, slot := range []int{math.MinInt, -1, 0, 1, math.MaxInt} {
		wantSet(t, g, 0, slot, 0, api.ErrRange)
		wantSet(t, g, 0, slot, -1, api.ErrRange)
	}
}

// R3: who looks changes nothing.
func TestLookingChangesNothing(t *testing.T) {
	for _, phase := range phases() {
		g := world(t, phase)
		for range 3 {
			look(g)
		}
		wantSameFuture(t, g, world(t, phase))
	}
}

// R4: roots are not changed, spare room too, and not kept.
func TestRootsStayTheCallers(t *testing.T) {
	roots := append(make([]int, 0, 8), 2, 0, 2)
	spare := roots[:8]
	copy(spare[3:], list(9, 8, 7, 6, 5))
	want := slices.Clone(spare)
	g := net(t, list(3), nil, nil, nil, nil)
	wantStart(t, g, roots, api.OK)
	wantShade(t, g, 1, api.OK)
	wantWork(t, g, 3, 0)
	if !slices.Equal(spare, want) {
		t.Errorf("roots are %v, want %v", spare, want)
	}
	for i := range spare {
		spare[i] = 4
	}
	wantBlackening(t, g, 1, 3)
	wantColors(t, g, black, black, black, black, gone)
}

// R4: slots that are answered are not the graph's, nor those of another answer.
func TestAnsweredSlotsAreNew(t *testing.T) {
	g := net(t, list(0, 1, -1), list(0))
	first, _ := g.Slots(0)
	second, _ := g.Slots(0)
	other, _ := g.Slots(1)
	for i := range first[:cap(first)] {
		first[:cap(first)][i] = 1
	}
	if !slices.Equal(second, list(0, 1, -1)) || !slices.Equal(other, list(0)) {
		t.Errorf("other answers have changed: %v, %v", second, other)
	}
	wantSlots(t, g, 0, list(0, 1, -1), api.OK)
	wantSlots(t, g, 1, list(0), api.OK)
	wantSet(t, g, 0, 0, -1, api.OK)
	if !slices.Equal(second, list(0, 1, -1)) {
		t.Errorf("an answer has changed with the graph: %v", second)
	}
}

// R4: the swept numbers of one answer are not those of another, nor the graph's.
func TestAnsweredNumbersAreNew(t *testing.T) {
	g := build(t, 0, 0, 0, 0, 0, 0)
	wantStart(t, g, list(5), api.OK)
	wantWork(t, g, 2, 0)
	_, first := g.Work(3)
	_, second := g.Work(2)
	for i := range first[:cap(first)] {
		first[:cap(first)][i] = 5
	}
	if !slices.Equal(second, list(3, 4)) {
		t.Errorf("another answer has changed: %v", second)
	}
	wantWork(t, g, 10, 8)
	wantColors(t, g, gone, gone, gone, gone, gone, black)
	wantNode(t, g, 0, 0, api.OK)
}

// R5: two graphs know nothing of each other.
func TestGraphsAreApart(t *testing.T) {
	a, b := world(t, api.Mark), world(t, api.Sweep)
	c := build(t)
	wantNode(t, a, 1, 5, api.OK)
	wantNode(t, b, 1, 2, api.OK)
	wantNode(t, c, 1, 0, api.OK)
	wantShade(t, a, 4, api.OK)
	wantWork(t, b, 100, 95, 4, 6)
	wantStart(t, c, nil, api.OK)
	wantWork(t, c, 100, 97, 0)
	wantPhase(t, a, api.Mark, 1)
	wantColors(t, a, grey, grey, white, grey, grey, black, white)
	wantPhase(t, b, api.Idle, 2)
	wantColors(t, b, black, black, black, black)
	wantPhase(t, c, api.Idle, 1)
	wantColors(t, c)
	wantWork(t, a, 100, 100-2-2-2-4-1-1-7-1, 6)
}

// R6: Live tells what there was at its call, whatever comes and goes behind it.
func TestLiveTellsWhatThereWas(t *testing.T) {
	g := build(t, 0, 0, 0, 0)
	none, all := build(t).Live(), g.Live()
	g.Node(0)
	wantStart(t, g, list(1, 4), api.OK)
	five := g.Live()
	g.Work(3)
	two := g.Live()
	g.Work(2)
	g.Node(0)
	three := g.Live()
	g.Work(100)
	wantStart(t, g, nil, api.OK)
	g.Work(100)
	for range 2 {
		for _, c := range []struct{ got, want []int }{
			{slices.Collect(none), nil}, {slices.Collect(all), list(0, 1, 2, 3)}, {slices.Collect(five), upTo(5)},
			{slices.Collect(two), list(1, 4)}, {slices.Collect(three), list(0, 1, 4)},
		} {
			if !slices.Equal(c.got, c.want) {
				t.Errorf("Live: %v, want %v", c.got, c.want)
			}
		}
	}
	wantLive(t, g)
}

// R6: the graph may change within a loop over it.
func TestLiveWhileTheGraphChanges(t *testing.T) {
	g := build(t, 0, 0, 0)
	var got []int
	for n := range g.Live() {
		got = append(got, n)
		g.Node(0)
		g.Start(nil)
		g.Work(100)
	}
	if !slices.Equal(got, upTo(3)) {
		t.Errorf("Live: %v", got)
	}
	wantLive(t, g)
}

// R6: the same again each time, also within a loop over itself and after a loop that was left, at once.
func TestLiveAgain(t *testing.T) {
	it := world(t, api.Mark).Live()
	want := list(0, 1, 2, 3, 4, 6)
	for stop := 1; stop <= len(want); stop++ {
		var got []int
		it(func(n int) bool {
			got = append(got, n)
			return len(got) < stop
		})
		if !slices.Equal(got, want[:stop]) {
			t.Errorf("left behind %d: %v", stop, got)
		}
	}
	rounds := 0
	for range it {
		if got := slices.Collect(it); !slices.Equal(got, want) {
			t.Errorf("within itself: %v", got)
		}
		rounds++
	}
	if rounds != len(want) {
		t.Errorf("%d rounds, want %d", rounds, len(want))
	}
}

// P8.6: a nil graph, with arguments that would be right and others.
func TestNilGraph(t *testing.T) {
	var g *color.Graph
	for _, n := range append(never(), -1, 0, 1, 2) {
		wantNode(t, g, n, 0, api.ErrArg)
		wantSlots(t, g, n, nil, api.ErrArg)
		wantColor(t, g, n, 0, api.ErrArg)
		wantShade(t, g, n, api.ErrArg)
		wantSet(t, g, n, 0, -1, api.ErrArg)
		wantSet(t, g, 0, n, 0, api.ErrArg)
		wantSet(t, g, 0, 0, n, api.ErrArg)
		wantStart(t, g, list(n), api.ErrArg)
		wantWork(t, g, n, 0)
	}
	wantStart(t, g, nil, api.ErrArg)
	wantPhase(t, g, api.Idle, 0)
	wantLive(t, g)
}
