package table

import (
	"math/bits"

	"heddle/api"
	"heddle/group"
	"heddle/probe"
)

// sound tells whether a list of words is a table whose counts are right and whose entries are all found.
func sound(t []uint64) bool {
	if !shaped(t) {
		return false
	}
	full, used := 0, 0
	for g := range groupsOf(t) {
		c := t[controlAt(g)]
		if !soundControl(c) || !soundSlots(t, g) {
			return false
		}
		full += bits.OnesCount64(group.Full(c))
		used += bits.OnesCount64(group.Full(c) | group.Deleted(c))
	}
	left := groupRoom*groupsOf(t) - used
	return left >= 0 && t[entriesAt] == uint64(full) && t[growthAt] == uint64(left) && allFound(t)
}

// shaped tells whether a list has as many words as its number of groups asks for.
func shaped(t []uint64) bool {
	// A number that is too great is left out ahead of turning it into an int, which might cut it.
	if len(t) < firstGroup || t[groupsAt] > api.MaxGroups {
		return false
	}
	return allowed(groupsOf(t)) && len(t) == wordsOf(groupsOf(t))
}

// soundControl tells whether each byte of a control word is empty, deleted or full, and not some of them empty and others deleted.
func soundControl(c uint64) bool {
	if group.Full(c)|group.Open(c) != 1<<slots-1 {
		return false
	}
	return group.Empty(c) == 0 || group.Deleted(c) == 0
}

// soundSlots tells whether the slots of a group hold what its control word says.
func soundSlots(t []uint64, g int) bool {
	c := t[controlAt(g)]
	full := group.Full(c)
	for i := range slots {
		hash, id := t[hashAt(g, i)], t[idAt(g, i)]
		if full>>i&1 == 0 {
			if hash != 0 || id != 0 {
				return false
			}
			continue
		}
		_, h2 := group.Split(hash)
		if b, _ := group.Get(c, i); b != h2 {
			return false
		}
	}
	return true
}

// allFound tells whether a search for each entry comes to its group.
func allFound(t []uint64) bool {
	groups := groupsOf(t)
	ends := make([]bool, groups)
	for g := range groups {
		ends[g] = group.Empty(t[controlAt(g)]) != 0
	}
	for own := range groups {
		full := group.Full(t[controlAt(own)])
	entries:
		for i := range slots {
			if full>>i&1 == 0 {
				continue
			}
			h1, _ := group.Split(t[hashAt(own, i)])
			// Nearly all entries are in one of their first groups, for which no iterator is worth its making.
			for n := range groups {
				g, _ := probe.At(h1, groups, n)
				if g == own {
					continue entries
				}
				if ends[g] {
					return false
				}
			}
		}
	}
	return true
}
