package reach_test

import (
	"math/rand"
	"slices"
	"testing"

	"heddle/api"
)

// modelSet goes by the words of the chapter: roots are reached, and so is what a reached node names, till nothing more is.
func modelSet(net [][]int, roots []int) []bool {
	set := flags(len(net), roots...)
	for more := true; more; {
		more = false
		for node, named := range net {
			for _, to := range named {
				if set[node] && !set[to] {
					set[to], more = true, true
				}
			}
		}
	}
	return set
}

// modelWay tries all ways of one node, then of two and so on, the lesser nodes first; nil, if to is not reached.
func modelWay(net [][]int, roots []int, to int) []int {
	var try func(way, choice []int, length int) []int
	try = func(way, choice []int, length int) []int {
		for node := range net {
			if !slices.Contains(choice, node) {
				continue
			}
			longer := append(slices.Clone(way), node)
			if len(longer) == length && node == to {
				return longer
			}
			if len(longer) < length {
				if found := try(longer, net[node], length); found != nil {
					return found
				}
			}
		}
		return nil
	}
	for length := 1; length <= len(net); length++ {
		if found := try(nil, roots, length); found != nil {
			return found
		}
	}
	return nil
}

// modelLost holds what is reached against what is reached in a net where the node is no root, names nothing and is not named.
func modelLost(net [][]int, roots []int, without int) []int {
	isIt := func(n int) bool { return n == without }
	var cut [][]int
	for node, named := range net {
		if isIt(node) {
			named = nil
		}
		cut = append(cut, slices.DeleteFunc(slices.Clone(named), isIt))
	}
	before, after := modelSet(net, roots), modelSet(cut, slices.DeleteFunc(slices.Clone(roots), isIt))
	var lost []int
	for node := range net {
		if before[node] && !after[node] {
			lost = append(lost, node)
		}
	}
	return lost
}

func modelOrder(net [][]int, roots []int) []int {
	var order []int
	var each func(list []int)
	each = func(list []int) {
		for _, node := range list {
			if !slices.Contains(order, node) {
				order = append(order, node)
				each(net[node])
			}
		}
	}
	each(roots)
	return order
}

// wantModel holds all calls against the models.
func wantModel(t *testing.T, net [][]int, roots []int) {
	t.Helper()
	wantSet(t, net, roots, modelSet(net, roots), api.OK)
	wantOrder(t, net, roots, modelOrder(net, roots), api.OK)
	for node := range net {
		way, want := modelWay(net, roots, node), api.OK
		if way == nil {
			want = api.ErrNone
		}
		wantWay(t, net, roots, node, way, want)
		wantLost(t, net, roots, node, modelLost(net, roots, node), api.OK)
	}
	if t.Failed() {
		t.Fatalf("net %v, roots %v", net, roots)
	}
}

// P7.1 to P7.4: every net of three nodes, of which each names some, from all sets of roots.
func TestAllNetsOfThree(t *testing.T) {
	some := func(bits int) (list []int) {
		for n := range 3 {
			if bits>>n&1 == 1 {
				list = append(list, n)
			}
		}
		return list
	}
	for bits := range 1 << 12 {
		wantModel(t, [][]int{some(bits), some(bits >> 3), some(bits >> 6)}, some(bits>>9))
	}
}

func drawList(draw *rand.Rand, length, n int) []int {
	list := make([]int, length)
	for i := range list {
		list[i] = draw.Intn(n)
	}
	return list
}

// drawNet answers a net of n nodes, each of which names up to most, the same more than once at times.
func drawNet(draw *rand.Rand, n, most int) [][]int {
	net := make([][]int, n)
	for i := range net {
		net[i] = drawList(draw, draw.Intn(most+1), n)
	}
	return net
}

// P7.1 to P7.4: drawn nets, in whose lists nodes stand in any order and more than once.
func TestDrawnNets(t *testing.T) {
	draw := rand.New(rand.NewSource(7))
	for round := range 4000 {
		n := round%8 + 1
		wantModel(t, drawNet(draw, n, 3), drawList(draw, draw.Intn(4), n))
	}
}

// P7.2: nets of layers, each node of which names some of the next layer, so that many ways are equally short.
func TestDrawnLayers(t *testing.T) {
	draw := rand.New(rand.NewSource(8))
	for range 1500 {
		names := draw.Perm(9)
		net := make([][]int, 10)
		for i, node := range names {
			for _, next := range names[min(i/3*3+3, 9):min(i/3*3+6, 9)] {
				if draw.Intn(3) > 0 {
					net[node] = append(net[node], next)
				}
			}
			if i >= 6 {
				net[node] = append(net[node], 9)
			}
		}
		wantModel(t, net, names[:3])
	}
}

// P7.1, P7.3, P7.4: nets too great for the model of ways.
func TestDrawnGreaterNets(t *testing.T) {
	draw := rand.New(rand.NewSource(9))
	for range 100 {
		n := draw.Intn(60) + 1
		net, roots := drawNet(draw, n, 2), drawList(draw, 2, n)
		wantSet(t, net, roots, modelSet(net, roots), api.OK)
		wantOrder(t, net, roots, modelOrder(net, roots), api.OK)
		for node := range net {
			wantLost(t, net, roots, node, modelLost(net, roots, node), api.OK)
		}
		if t.Failed() {
			t.Fatalf("net %v, roots %v", net, roots)
		}
	}
}
