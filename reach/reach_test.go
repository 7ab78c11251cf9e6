package reach_test

import (
	"iter"
	"math"
	"reflect"
	"slices"
	"testing"

	"heddle/api"
	"heddle/reach"
)

// example is the net of the chapter's example.
func example() [][]int { return [][]int{{1, 2}, {3}, {3}, nil, {0}} }

// list writes a list of numbers out.
func list(n ...int) []int { return n }

// chain answers a net of n nodes, each of which names the next.
func chain(n int) [][]int {
	net := make([][]int, n)
	for i := 1; i < n; i++ {
		net[i-1] = []int{i}
	}
	return net
}

// upTo answers the numbers from 0 up to n, without n.
func upTo(n int) []int {
	all := make([]int, n)
	for i := range all {
		all[i] = i
	}
	return all
}

// flags answers n flags, of which those at the places are true.
func flags(n int, places ...int) []bool {
	set := make([]bool, n)
	for _, p := range places {
		set[p] = true
	}
	return set
}

func wantSet(t *testing.T, net [][]int, roots []int, set []bool, want api.Errno) {
	t.Helper()
	if got, e := reach.Set(net, roots); !slices.Equal(got, set) || e != want {
		t.Errorf("Set(%v, %v) = %v, %d, want %v, %d", brief(net), brief(roots), brief(got), e, brief(set), want)
	}
}

func wantWay(t *testing.T, net [][]int, roots []int, to int, way []int, want api.Errno) {
	t.Helper()
	if got, e := reach.Way(net, roots, to); !slices.Equal(got, way) || e != want {
		t.Errorf("Way(%v, %v, %d) = %v, %d, want %v, %d", brief(net), brief(roots), to, brief(got), e, brief(way), want)
	}
}

func wantLost(t *testing.T, net [][]int, roots []int, without int, lost []int, want api.Errno) {
	t.Helper()
	if got, e := reach.Lost(net, roots, without); !slices.Equal(got, lost) || e != want {
		t.Errorf("Lost(%v, %v, %d) = %v, %d, want %v, %d", brief(net), brief(roots), without, brief(got), e, brief(lost), want)
	}
}

func wantOrder(t *testing.T, net [][]int, roots []int, order []int, want api.Errno) {
	t.Helper()
	it, e := reach.Order(net, roots)
	if it == nil {
		t.Fatalf("Order(%v, %v) = nil, %d", brief(net), brief(roots), e)
	}
	if got := slices.Collect(it); !slices.Equal(got, order) || e != want {
		t.Errorf("Order(%v, %v) = %v, %d, want %v, %d", brief(net), brief(roots), brief(got), e, brief(order), want)
	}
}

// wantError asks all four calls, with a node for to and without.
func wantError(t *testing.T, net [][]int, roots []int, node int, want api.Errno) {
	t.Helper()
	wantSet(t, net, roots, nil, want)
	wantWay(t, net, roots, node, nil, want)
	wantLost(t, net, roots, node, nil, want)
	wantOrder(t, net, roots, nil, want)
}

// brief keeps long lists out of what a test tells.
func brief[E any](l []E) []E { return l[:min(len(l), 20)] }

// wrong answers numbers that are no nodes of n.
func wrong(n int) []int {
	return []int{math.MinInt, math.MinInt + 1, math.MinInt32, -n - 1, -n - 2, -1,
		n, n + 1, 2*n + 1, api.MaxNodes, api.MaxNodes + 1, math.MaxInt32, 1 << 32, math.MaxInt - 1, math.MaxInt}
}

// The chapter's example.
func TestExample(t *testing.T) {
	net, roots := example(), list(0)
	wantSet(t, net, roots, flags(5, 0, 1, 2, 3), api.OK)
	wantWay(t, net, roots, 3, list(0, 1, 3), api.OK)
	wantLost(t, net, roots, 1, list(1), api.OK)
	wantLost(t, net, roots, 0, list(0, 1, 2, 3), api.OK)
	wantOrder(t, net, roots, list(0, 1, 3, 2), api.OK)
	wantWay(t, net, roots, 4, nil, api.ErrNone)
}

// P7.1: from each node of the example, and from several.
func TestSet(t *testing.T) {
	net := example()
	wantSet(t, net, list(1), flags(5, 1, 3), api.OK)
	wantSet(t, net, list(2), flags(5, 2, 3), api.OK)
	wantSet(t, net, list(3), flags(5, 3), api.OK)
	wantSet(t, net, list(4), flags(5, 0, 1, 2, 3, 4), api.OK)
	wantSet(t, net, list(2, 1), flags(5, 1, 2, 3), api.OK)
	wantSet(t, net, list(3, 2, 3, 3), flags(5, 2, 3), api.OK)
	wantSet(t, net, list(0, 4), flags(5, 0, 1, 2, 3, 4), api.OK)
	wantSet(t, net, list(4, 0), flags(5, 0, 1, 2, 3, 4), api.OK)
}

// P7.1 to P7.4: from no root nothing is reached.
func TestNoRoot(t *testing.T) {
	for _, net := range [][][]int{example(), {{}}, {{0}}, chain(30)} {
		for _, roots := range [][]int{nil, {}} {
			wantSet(t, net, roots, make([]bool, len(net)), api.OK)
			wantOrder(t, net, roots, nil, api.OK)
			for node := range net {
				wantWay(t, net, roots, node, nil, api.ErrNone)
				wantLost(t, net, roots, node, nil, api.OK)
			}
		}
	}
}

// P7.1, P7.4: a net of no entries is sound, but nothing is a node of it.
func TestNoEntries(t *testing.T) {
	for _, net := range [][][]int{nil, {}} {
		wantSet(t, net, nil, nil, api.OK)
		wantSet(t, net, list(), nil, api.OK)
		wantOrder(t, net, nil, nil, api.OK)
		wantWay(t, net, nil, 0, nil, api.ErrArg)
		wantLost(t, net, nil, 0, nil, api.ErrArg)
		wantError(t, net, list(0), 0, api.ErrArg)
	}
}

// P7.1 to P7.4: a net of one entry, which may name itself more than once.
func TestOneEntry(t *testing.T) {
	for _, net := range [][][]int{{nil}, {{}}, {{0}}, {{0, 0, 0}}} {
		for _, roots := range [][]int{{0}, {0, 0}} {
			wantSet(t, net, roots, flags(1, 0), api.OK)
			wantWay(t, net, roots, 0, list(0), api.OK)
			wantLost(t, net, roots, 0, list(0), api.OK)
			wantOrder(t, net, roots, list(0), api.OK)
		}
	}
}

// P7.1 to P7.4: as many entries as there can be, as deep as they can lie; with one more the net is not sound.
func TestMaxNodes(t *testing.T) {
	n := api.MaxNodes
	net, all := chain(n), upTo(n)
	wantSet(t, net, list(0), flags(n, all...), api.OK)
	wantSet(t, net, list(n-1), flags(n, n-1), api.OK)
	wantWay(t, net, list(0), n-1, all, api.OK)
	wantWay(t, net, list(n-1), 0, nil, api.ErrNone)
	wantLost(t, net, list(0), 0, all, api.OK)
	wantLost(t, net, list(0), n/2, all[n/2:], api.OK)
	wantLost(t, net, list(0), n-1, all[n-1:], api.OK)
	wantOrder(t, net, list(0), all, api.OK)
	wantOrder(t, net, list(n-1, n-2), list(n-1, n-2), api.OK)
	wantError(t, net, list(n), 0, api.ErrArg)
	wantError(t, chain(n+1), list(0), 0, api.ErrForm)
	wantError(t, make([][]int, n+1), nil, 0, api.ErrForm)
	wantError(t, make([][]int, 2*n), list(0), 0, api.ErrForm)
}

// P7.2, P7.4: all nodes as roots, backwards, of a net that goes round.
func TestMaxNodesGoingRound(t *testing.T) {
	n := api.MaxNodes
	net := chain(n)
	net[n-1] = list(0)
	backwards := upTo(n)
	slices.Reverse(backwards)
	wantSet(t, net, list(n/2), flags(n, upTo(n)...), api.OK)
	wantOrder(t, net, list(n/2), append(upTo(n)[n/2:], upTo(n/2)...), api.OK)
	wantOrder(t, net, backwards, append(list(n-1), upTo(n-1)...), api.OK)
	wantWay(t, net, backwards, n/3, list(n/3), api.OK)
	wantWay(t, net, list(n-1), n-2, append(list(n-1), upTo(n-1)...), api.OK)
	wantLost(t, net, backwards, n/3, list(n/3), api.OK)
}

// P7.1 to P7.4: lists as long as they can be; one longer list, and the net is not sound, whatever it names.
func TestMaxSlots(t *testing.T) {
	m := api.MaxSlots
	star := make([][]int, m+1)
	star[m] = upTo(m)
	wantSet(t, star, list(m), flags(m+1, upTo(m+1)...), api.OK)
	wantWay(t, star, list(m), m-1, list(m, m-1), api.OK)
	wantLost(t, star, list(m), m, upTo(m+1), api.OK)
	wantLost(t, star, list(m), m-1, list(m-1), api.OK)
	wantOrder(t, star, list(m), append(list(m), upTo(m)...), api.OK)

	star[m] = append(upTo(m), 0)
	wantError(t, star, list(m), 0, api.ErrForm)
	wantError(t, star, list(0), 0, api.ErrForm)
	wantError(t, star, nil, 0, api.ErrForm)
	for _, at := range []int{0, 1, 2} {
		net := make([][]int, 3)
		net[at] = make([]int, m)
		wantSet(t, net, list(at), flags(3, 0, at), api.OK)
		net[at] = make([]int, m+1)
		wantError(t, net, list(0), 0, api.ErrForm)
	}
}

// P7.1: many long lists, which share their memory.
func TestSharedLists(t *testing.T) {
	n := 4096
	net, same := make([][]int, n), upTo(n)
	for i := range net {
		net[i] = same
	}
	wantSet(t, net, list(7), flags(n, same...), api.OK)
	wantWay(t, net, list(7), 9, list(7, 9), api.OK)
	wantLost(t, net, list(7), 9, list(9), api.OK)
	wantOrder(t, net, list(0), same, api.OK)
}

// P7.1 to P7.4: the roots are not limited, and may come again.
func TestManyRoots(t *testing.T) {
	net, roots := example(), make([]int, 3*api.MaxNodes)
	for i := range roots {
		roots[i] = 2 - i%2
	}
	wantSet(t, net, roots, flags(5, 1, 2, 3), api.OK)
	wantWay(t, net, roots, 3, list(1, 3), api.OK)
	wantLost(t, net, roots, 1, list(1), api.OK)
	wantLost(t, net, roots, 3, list(3), api.OK)
	wantOrder(t, net, roots, list(2, 3, 1), api.OK)
	roots[len(roots)-1] = 5
	wantError(t, net, roots, 0, api.ErrArg)
}

// P7.1 to P7.4: a root that another root names, or that is named by itself.
func TestRootsThatAreNamed(t *testing.T) {
	net := [][]int{{1}, {2}, {1, 2}, {3}}
	for _, roots := range [][]int{{0, 1}, {1, 0}, {0, 1, 0, 1}} {
		wantSet(t, net, roots, flags(4, 0, 1, 2), api.OK)
		wantWay(t, net, roots, 1, list(1), api.OK)
		wantWay(t, net, roots, 2, list(1, 2), api.OK)
		wantLost(t, net, roots, 0, list(0), api.OK)
		wantLost(t, net, roots, 1, list(1, 2), api.OK)
	}
	wantOrder(t, net, list(0, 1), list(0, 1, 2), api.OK)
	wantOrder(t, net, list(1, 0), list(1, 2, 0), api.OK)
	wantOrder(t, net, list(3, 2, 0), list(3, 2, 1, 0), api.OK)
}

// P7.2: a way of one node, though there are ways around.
func TestWayOfOneNode(t *testing.T) {
	net := [][]int{{1, 0}, {2}, {0}}
	for node := range net {
		wantWay(t, net, list(node), node, list(node), api.OK)
		wantWay(t, net, list(2, 1, 0), node, list(node), api.OK)
	}
}

// P7.2: the shortest way counts first, however great its nodes.
func TestWayIsShortest(t *testing.T) {
	net := [][]int{{1, 5}, {2}, {3}, {4}, nil, {4}}
	wantWay(t, net, list(0), 4, list(0, 5, 4), api.OK)
	wantWay(t, net, list(0, 3), 4, list(3, 4), api.OK)
	wantWay(t, net, list(0, 3, 5), 4, list(3, 4), api.OK)
	wantWay(t, net, list(0, 5), 4, list(5, 4), api.OK)
	wantWay(t, net, list(4, 5), 4, list(4), api.OK)
}

// P7.2: of several shortest ways the one with the lesser first difference, in whatever order roots and lists stand.
func TestWayComesFirst(t *testing.T) {
	cases := []struct {
		net   [][]int
		roots []int
		to    int
		way   []int
	}{
		{[][]int{{1, 2, 3}, {4}, {4}, {4}, nil}, list(0), 4, list(0, 1, 4)},
		{[][]int{{3}, {3}, {3}, nil}, list(0, 1, 2), 3, list(0, 3)},
		// The node ahead of the last is not the least that there can be: the roots differ first.
		{[][]int{{5}, {2}, {6}, nil, nil, {6}, nil}, list(0, 1), 6, list(0, 5, 6)},
		// Nor is it where the second nodes differ first.
		{[][]int{{1, 2}, {6}, {5}, nil, nil, {7}, {7}, nil}, list(0), 7, list(0, 1, 6, 7)},
		// The two ways meet at their end, and which of them has the lesser node changes at each step.
		{[][]int{{3}, {2}, {5}, {4}, {7}, {6}, {8}, {8}, nil}, list(0, 1), 8, list(0, 3, 4, 7, 8)},
		// The lesser root's way is longer.
		{[][]int{{2}, {4}, {3}, {4}, nil}, list(0, 1), 4, list(1, 4)},
		// The node to is the least of all.
		{[][]int{nil, {3, 2}, {0}, {0}}, list(1), 0, list(1, 2, 0)},
	}
	for _, c := range cases {
		for range 2 {
			for range 2 {
				wantWay(t, c.net, c.roots, c.to, c.way, api.OK)
				for _, l := range c.net {
					slices.Reverse(l)
				}
			}
			slices.Reverse(c.roots)
		}
	}
}

// P7.2: to is not reached.
func TestWayToOneNotReached(t *testing.T) {
	net := [][]int{{1}, {0}, {0, 1, 3}, {3}}
	wantWay(t, net, list(0), 2, nil, api.ErrNone)
	wantWay(t, net, list(1, 0), 3, nil, api.ErrNone)
	wantWay(t, net, list(3), 2, nil, api.ErrNone)
	wantWay(t, net, list(3), 0, nil, api.ErrNone)
	wantWay(t, net, list(2), 3, list(2, 3), api.OK)
}

// P7.3: what can still be reached another way is not lost: by another root, by another list, round about.
func TestLost(t *testing.T) {
	net := [][]int{{1, 2}, {3}, {3, 4}, {5}, nil, {3}, {0, 6}}
	wantLost(t, net, list(0), 0, upTo(6), api.OK)
	wantLost(t, net, list(0), 1, list(1), api.OK)
	wantLost(t, net, list(0), 2, list(2, 4), api.OK)
	wantLost(t, net, list(0), 3, list(3, 5), api.OK)
	wantLost(t, net, list(0), 5, list(5), api.OK)
	wantLost(t, net, list(0, 2), 0, list(0, 1), api.OK)
	wantLost(t, net, list(2, 0), 0, list(0, 1), api.OK)
	wantLost(t, net, list(0, 5), 3, list(3), api.OK)
	wantLost(t, net, list(0, 3), 3, list(3, 5), api.OK)
	wantLost(t, net, list(6), 6, upTo(7), api.OK)
	wantLost(t, net, list(6), 0, upTo(6), api.OK)
	wantLost(t, net, list(6, 0), 0, upTo(6), api.OK)
	wantLost(t, net, list(6, 0), 6, list(6), api.OK)
	wantLost(t, net, list(0, 0), 0, upTo(6), api.OK)
}

// P7.3: without a node that is not reached nothing is lost, even if it names much, and nothing that is not reached is.
func TestLostWithoutOneNotReached(t *testing.T) {
	net := [][]int{{1}, {0}, {0, 1, 3}, nil}
	wantLost(t, net, list(0), 2, nil, api.OK)
	wantLost(t, net, list(0), 3, nil, api.OK)
	wantLost(t, net, list(3), 0, nil, api.OK)
	wantLost(t, net, list(0, 3), 2, nil, api.OK)
	wantLost(t, net, list(1), 0, list(0), api.OK)
	wantLost(t, net, list(1), 1, list(0, 1), api.OK)
}

// P7.3: rising, in whatever order the search goes.
func TestLostRises(t *testing.T) {
	net := [][]int{nil, nil, {4, 0, 3}, {1}, {5}, nil}
	wantLost(t, net, list(2), 2, upTo(6), api.OK)
	wantLost(t, net, list(5, 2), 2, upTo(5), api.OK)
	wantLost(t, net, list(4, 2), 4, list(4, 5), api.OK)
}

// P7.4: the order of the roots and of each list counts.
func TestOrder(t *testing.T) {
	net := [][]int{{1, 2}, {3, 4}, {5, 6}, nil, nil, nil, nil}
	wantOrder(t, net, list(0), list(0, 1, 3, 4, 2, 5, 6), api.OK)
	wantOrder(t, net, list(2, 1, 0), list(2, 5, 6, 1, 3, 4, 0), api.OK)
	wantOrder(t, net, list(4, 0, 6), list(4, 0, 1, 3, 2, 5, 6), api.OK)
	net = [][]int{{2, 1}, {4, 3}, {6, 5}, nil, nil, nil, nil}
	wantOrder(t, net, list(0), list(0, 2, 6, 5, 1, 4, 3), api.OK)
	wantOrder(t, net, list(1, 0), list(1, 4, 3, 0, 2, 6, 5), api.OK)
}

// P7.4: a node comes as deep as it is found first, not as near as it is named.
func TestOrderIsDepthFirst(t *testing.T) {
	wantOrder(t, [][]int{{1, 2, 3}, {3}, {1}, {2}}, list(0), list(0, 1, 3, 2), api.OK)
	wantOrder(t, [][]int{{1, 2, 3}, {3}, {1}, {2}}, list(0, 3, 1), list(0, 1, 3, 2), api.OK)
	wantOrder(t, [][]int{{3, 2, 1}, {0}, {1, 3}, {0, 2}}, list(0), list(0, 3, 2, 1), api.OK)
	wantOrder(t, [][]int{{0, 4, 0, 1}, nil, {3}, {2, 1}, {4, 2, 2}}, list(0), list(0, 4, 2, 3, 1), api.OK)
}

// P7.1 to P7.4: nodes that name themselves or another twice, and nets that go round.
func TestGoingRound(t *testing.T) {
	net := [][]int{{0, 1, 1, 0}, {1, 2, 2}, {2, 0, 0}, {3, 0}}
	wantSet(t, net, list(1), flags(4, 0, 1, 2), api.OK)
	wantWay(t, net, list(1), 0, list(1, 2, 0), api.OK)
	wantWay(t, net, list(0), 2, list(0, 1, 2), api.OK)
	wantWay(t, net, list(3), 2, list(3, 0, 1, 2), api.OK)
	wantLost(t, net, list(1), 2, list(0, 2), api.OK)
	wantLost(t, net, list(3), 0, list(0, 1, 2), api.OK)
	wantOrder(t, net, list(1), list(1, 2, 0), api.OK)
	wantOrder(t, net, list(2, 3), list(2, 0, 1, 3), api.OK)
}

// The sentence on ErrForm: a wrong number anywhere in the net, reached or not, first or last in its list.
func TestWrongNumbersInTheNet(t *testing.T) {
	for at := range 5 {
		for _, n := range wrong(5) {
			net := example()
			net[at] = append(list(n), net[at]...)
			wantError(t, net, list(0), 0, api.ErrForm)
			wantError(t, net, nil, 4, api.ErrForm)
			net[at] = append(example()[at], n)
			wantError(t, net, list(0), 0, api.ErrForm)
			wantError(t, net, list(3), 3, api.ErrForm)
		}
	}
	for _, n := range append(wrong(1), 1) {
		wantError(t, [][]int{{n}}, list(0), 0, api.ErrForm)
	}
}

// The sentence on ErrArg: a root that is no node, wherever it stands, also where the roots before it reach all.
func TestWrongRoots(t *testing.T) {
	net := example()
	for _, n := range wrong(5) {
		for _, roots := range [][]int{{n}, {n, 0}, {4, n}, {4, n, 0}, {n, n}} {
			for node := range net {
				wantError(t, net, roots, node, api.ErrArg)
			}
		}
	}
}

// The sentence on ErrArg: to and without that are no nodes, with roots and with none.
func TestWrongToAndWithout(t *testing.T) {
	net := example()
	for _, n := range wrong(5) {
		for _, roots := range [][]int{nil, {0}, {4, 2}} {
			wantWay(t, net, roots, n, nil, api.ErrArg)
			wantLost(t, net, roots, n, nil, api.ErrArg)
		}
	}
	for _, n := range append(wrong(0), 0) {
		wantWay(t, nil, nil, n, nil, api.ErrArg)
		wantLost(t, nil, nil, n, nil, api.ErrArg)
	}
}

// R2: ErrForm stands ahead of ErrArg, and ErrArg ahead of ErrNone.
func TestWhichErrorIsFirst(t *testing.T) {
	for _, n := range wrong(2) {
		for _, net := range [][][]int{{{1}, {n}}, {{n}, nil}, {make([]int, api.MaxSlots+1), nil}} {
			for _, m := range wrong(2) {
				wantError(t, net, list(m), m, api.ErrForm)
				wantError(t, net, list(0), m, api.ErrForm)
				wantError(t, net, list(m), 0, api.ErrForm)
			}
		}
		wantWay(t, [][]int{nil, nil}, list(0, n), 1, nil, api.ErrArg)
		wantWay(t, [][]int{nil, nil}, list(n), 0, nil, api.ErrArg)
		wantWay(t, [][]int{nil, nil}, list(0), n, nil, api.ErrArg)
	}
	wantWay(t, [][]int{nil, nil}, list(0), 1, nil, api.ErrNone)
}

// roomy answers a copy of a list that has spare room which is not zero.
func roomy(l []int) []int {
	return append(slices.Clone(l), 7, 8, 9)[: len(l) : len(l)+3]
}

// roomyNet answers a copy of a net whose lists, and which itself, have spare room.
func roomyNet(net [][]int) [][]int {
	out := make([][]int, 0, len(net)+1)
	for _, l := range net {
		out = append(out, roomy(l))
	}
	return append(out, list(6, 6))[:len(net)]
}

// whole answers a copy of a list with its spare room.
func whole(l []int) []int { return slices.Clone(l[:cap(l)]) }

// wholeNet answers a copy of a net with all spare room.
func wholeNet(net [][]int) [][]int {
	var out [][]int
	for _, l := range net[:len(net)+1] {
		out = append(out, whole(l))
	}
	return out
}

// R4: nets and roots that are handed in stay as they are, spare room too.
func TestNothingHandedInChanges(t *testing.T) {
	net, roots := roomyNet([][]int{{3, 1, 2, 1}, {3, 2}, {2, 1, 0}, nil, {0, 4, 3}}), roomy(list(4, 2, 4, 1))
	netBefore, rootsBefore := wholeNet(net), whole(roots)
	for node := range net {
		reach.Set(net, roots)
		reach.Way(net, roots, node)
		reach.Way(net, roots[:1], node)
		reach.Lost(net, roots, node)
		for range told(t, net, roots) {
		}
	}
	if !reflect.DeepEqual(wholeNet(net), netBefore) || !slices.Equal(whole(roots), rootsBefore) {
		t.Errorf("net %v, roots %v, want %v, %v", wholeNet(net), whole(roots), netBefore, rootsBefore)
	}
}

// R4: who writes into an answer, spare room included, changes neither what was handed in nor another answer.
func TestAnswersShareNothing(t *testing.T) {
	net, roots := roomyNet([][]int{{1, 2}, {3}, {3}, nil, {0}}), roomy(list(4, 0))
	netBefore, rootsBefore := wholeNet(net), whole(roots)
	type answer struct {
		set       []bool
		way, lost []int
	}
	ask := func() (a answer) {
		a.set, _ = reach.Set(net, roots)
		a.way, _ = reach.Way(net, roots, 3)
		a.lost, _ = reach.Lost(net, roots, 0)
		return a
	}
	first, second := ask(), ask()
	copied := answer{slices.Clone(second.set), slices.Clone(second.way), slices.Clone(second.lost)}
	for i := range first.set[:cap(first.set)] {
		first.set[:cap(first.set)][i] = i%2 == 0
	}
	for _, l := range [][]int{first.way, first.lost} {
		for i := range l[:cap(l)] {
			l[:cap(l)][i] = 77
		}
	}
	if !reflect.DeepEqual(second, copied) || !reflect.DeepEqual(ask(), copied) {
		t.Errorf("answers %v and %v, want %v", second, ask(), copied)
	}
	if !reflect.DeepEqual(wholeNet(net), netBefore) || !slices.Equal(whole(roots), rootsBefore) {
		t.Errorf("net %v, roots %v, want %v, %v", wholeNet(net), whole(roots), netBefore, rootsBefore)
	}
}

// R5: what was asked before leaves nothing behind, errors neither.
func TestNothingIsKept(t *testing.T) {
	for range 3 {
		wantLost(t, example(), list(0), 0, upTo(4), api.OK)
		wantError(t, [][]int{{5}}, list(0), 0, api.ErrForm)
		wantError(t, example(), list(9), 0, api.ErrArg)
		wantWay(t, example(), list(0), 4, nil, api.ErrNone)
		TestExample(t)
	}
}

// told answers the iterator of Order, which must be there.
func told(t *testing.T, net [][]int, roots []int) iter.Seq[int] {
	t.Helper()
	it, e := reach.Order(net, roots)
	if it == nil || e != api.OK {
		t.Fatalf("Order: %v, %d", it == nil, e)
	}
	return it
}

// R6: the iterator tells what there was at its call, whatever becomes of the net and the roots.
func TestOrderTellsWhatThereWas(t *testing.T) {
	net, roots := example(), list(2, 4)
	it := told(t, net, roots)
	want := list(2, 3, 4, 0, 1)
	net[2][0] = 1
	if got := slices.Collect(it); !slices.Equal(got, want) {
		t.Errorf("a list has changed: %v, want %v", got, want)
	}
	roots[0] = 3
	net[4], net[0] = nil, list(99)
	clear(net[1:])
	if got := slices.Collect(it); !slices.Equal(got, want) {
		t.Errorf("all has changed: %v, want %v", got, want)
	}
	net, roots = example(), list(0)
	it = told(t, net, roots)
	var got []int
	for node := range it {
		net[node], roots[0] = nil, 4
		got = append(got, node)
	}
	if !slices.Equal(got, list(0, 1, 3, 2)) {
		t.Errorf("changed within the loop: %v", got)
	}
}

// R6: the same again each time, also within a loop over itself, and after a loop that was left.
func TestOrderAgain(t *testing.T) {
	it, want := told(t, example(), list(4)), list(4, 0, 1, 3, 2)
	for i := range want {
		var got []int
		for node := range it {
			got = append(got, node)
			if len(got) == i+1 {
				break
			}
		}
		if !slices.Equal(got, want[:i+1]) {
			t.Errorf("left behind %d: %v", i+1, got)
		}
		if got := slices.Collect(it); !slices.Equal(got, want) {
			t.Errorf("again: %v, want %v", got, want)
		}
	}
	rounds := 0
	for range it {
		if got := slices.Collect(it); !slices.Equal(got, want) {
			t.Errorf("within itself: %v, want %v", got, want)
		}
		rounds++
	}
	if rounds != len(want) {
		t.Errorf("%d rounds, want %d", rounds, len(want))
	}
}

// R6: it stops at once when the loop is left, and does not ask again.
func TestOrderIsLeft(t *testing.T) {
	it := told(t, [][]int{{1, 2}, {3}, {3}, nil}, list(0, 2))
	for stop := 1; stop <= 4; stop++ {
		calls := 0
		it(func(int) bool {
			calls++
			return calls < stop
		})
		if calls != stop {
			t.Errorf("%d calls, want %d", calls, stop)
		}
	}
}

// R6: two iterators go on side by side.
func TestOrdersAreApart(t *testing.T) {
	net := example()
	first, second := told(t, net, list(0)), told(t, net, list(3, 4))
	for node := range first {
		if got := slices.Collect(second); !slices.Equal(got, list(3, 4, 0, 1, 2)) {
			t.Errorf("at %d: %v", node, got)
		}
	}
	if got := slices.Collect(first); !slices.Equal(got, list(0, 1, 3, 2)) {
		t.Errorf("the first: %v", got)
	}
}
