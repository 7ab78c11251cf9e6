package table

import (
	"heddle/api"
	"heddle/group"
	"heddle/probe"
)

// Where the words stand that tell of the whole table, and where its groups begin.
const (
	groupsAt = iota
	entriesAt
	growthAt
	firstGroup
)

const (
	// slots is how many slots a group has.
	slots = 8
	// groupWords is how many words a group takes: its control word, and a hash and an id for each slot.
	groupWords = 1 + 2*slots
	// groupRoom is how many slots may be other than empty for each group, so that each search comes to an empty one.
	groupRoom = 7
)

// The control bytes of slots that are not full.
const (
	empty   = 0x80
	deleted = 0xFE
)

// allowed tells whether a table may have so many groups: the order of groups knows.
func allowed(groups int) bool {
	_, e := probe.At(0, groups, 0)
	return e == api.OK
}

// wordsOf answers how many words a table of so many groups has.
func wordsOf(groups int) int {
	return firstGroup + groupWords*groups
}

// groupsOf answers how many groups a sound table has.
func groupsOf(t []uint64) int {
	return int(t[groupsAt])
}

// controlAt answers where the control word of a group stands.
func controlAt(g int) int {
	return firstGroup + groupWords*g
}

// hashAt answers where the hash of a slot stands.
func hashAt(g, i int) int {
	return controlAt(g) + 1 + 2*i
}

// idAt answers where the id of a slot stands.
func idAt(g, i int) int {
	return hashAt(g, i) + 1
}

// write gives a slot its control byte, its hash and its id.
func write(t []uint64, g, i int, b byte, hash, id uint64) {
	t[controlAt(g)], _ = group.Set(t[controlAt(g)], i, b)
	t[hashAt(g, i)], t[idAt(g, i)] = hash, id
}
