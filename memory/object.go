package memory

import (
	"heddle/api"
)

// nobody stands in a slot of the graph that holds no node.
const nobody = -1

// plain stands for the slot of a word that is no pointer.
const plain = -1

// object is what is known of an object beside what the heap knows.
type object struct {
	node int
	// Of each word: which of the node's slots it is, or plain.
	slots []int
}

// ptrs answers which words are pointers.
func (o object) ptrs() []bool {
	out := make([]bool, len(o.slots))
	for i, slot := range o.slots {
		out[i] = slot != plain
	}
	return out
}

// number answers which slot each word is, and how many slots there are.
func number(ptrs []bool) ([]int, int) {
	slots, count := make([]int, len(ptrs)), 0
	for i, pointer := range ptrs {
		slots[i] = plain
		if pointer {
			slots[i] = count
			count++
		}
	}
	return slots, count
}

// find answers the live object that begins at addr.
func (m *Memory) find(addr int) (object, api.Errno) {
	if m == nil {
		return object{}, api.ErrArg
	}
	o, ok := m.objects[addr]
	if !ok {
		return object{}, api.ErrNone
	}
	// Live nodes alone have a color.
	if _, e := m.Color(o.node); e != api.OK {
		return object{}, e
	}
	return o, api.OK
}

// part answers the live object that begins at addr, if it has a word i.
func (m *Memory) part(addr, i int) (object, api.Errno) {
	o, e := m.find(addr)
	if e != api.OK {
		return object{}, e
	}
	if i < 0 || i >= len(o.slots) {
		return object{}, api.ErrRange
	}
	return o, api.OK
}

// nodes answers the nodes of the roots, in order, without the 0s.
func (m *Memory) nodes(roots []int) ([]int, api.Errno) {
	if m == nil {
		return nil, api.ErrArg
	}
	var nodes []int
	for _, root := range roots {
		if root == 0 {
			continue
		}
		o, e := m.find(root)
		if e != api.OK {
			return nil, e
		}
		nodes = append(nodes, o.node)
	}
	return nodes, api.OK
}

// refs answers the addresses of what a node's slots hold, in order.
func (m *Memory) refs(node int) []int {
	slots, _ := m.Slots(node)
	var refs []int
	for _, to := range slots {
		if to != nobody {
			refs = append(refs, m.addrs[to])
		}
	}
	return refs
}

// point lets a node's slot hold what a pointer names.
func (m *Memory) point(node, slot int, v uint64) api.Errno {
	if v == 0 {
		return m.Graph.Set(node, slot, nobody)
	}
	// What is beyond every arena might wrap round and be an address then.
	if v > api.MaxArena {
		return api.ErrNone
	}
	to, e := m.find(int(v))
	if e != api.OK {
		return e
	}
	return m.Graph.Set(node, slot, to.node)
}
