package memory

import (
	"math"

	"heddle/api"
)

// hold sees to it that nodes outlive the cycle that runs. Beside the phase Mark nothing is to be done for it: what is live then stays so up to the next Begin.
func (m *Memory) hold(nodes []int) {
	for _, node := range nodes {
		m.Shade(node)
	}
}

// begin begins a cycle.
func (m *Memory) begin(nodes []int) api.Errno {
	e := m.Start(nodes)
	if e == api.OK {
		m.since = 0
	}
	return e
}

// finish works till the phase is Idle. No cycle takes as many units as there are numbers.
func (m *Memory) finish() {
	m.Work(math.MaxInt)
}

// cycle carries out a whole cycle.
func (m *Memory) cycle(nodes []int) api.Errno {
	e := m.begin(nodes)
	m.finish()
	return e
}

// room tells whether there is room for an object of so many words, for which the cycle that runs is ended, and one more carried out, where it does not fit without.
func (m *Memory) room(words int, nodes []int) bool {
	if !m.Fits(words) {
		m.finish()
	}
	if !m.Fits(words) {
		m.cycle(nodes)
	}
	return m.Fits(words)
}

// place makes an object for which there is room, and its node. There is always a node to be had, since the greatest heap has room for fewer objects than a graph for nodes.
func (m *Memory) place(ptrs []bool, tag int) (int, api.Errno) {
	slots, count := number(ptrs)
	node, e := m.Node(count)
	if e != api.OK {
		return 0, e
	}
	addr, e := m.heap.Alloc(len(ptrs)*word, tag)
	if e != api.OK {
		return 0, e
	}
	m.objects[addr] = object{node: node, slots: slots}
	m.addrs[node] = addr
	m.since += len(ptrs)
	return addr, api.OK
}

// free lets the object of a swept node go.
func (m *Memory) free(node int) {
	addr := m.addrs[node]
	m.heap.Free(addr)
	delete(m.objects, addr)
	delete(m.addrs, node)
}
