package maps

import (
	"slices"

	"heddle/api"
)

// The tags of objects: of maps and of iterators their type's number is added, and what maps hold has tags above all of those of maps.
const (
	tagMap   = 1 << 21
	tagEntry = tagMap + 4096 + 1
	tagDir   = tagMap + 4096 + 2
	tagPiece = tagMap + 4096 + 3
	tagIter  = 1 << 22
)

// The words of a map: the number of the next entry, how many entries there are, the directory that finds them, and the first and the last one of their list, which goes by their numbers.
const (
	mapNext = iota
	mapCount
	mapDir
	mapFirst
	mapLast
	mapWords
)

// The words of an entry: its number, its neighbours in the list, and its key's words, behind which its value's stand.
const (
	entryNumber = iota
	entryPrev
	entryNext
	entryKey
)

// wordSize is how many bytes a word has.
const wordSize = 8

func mapPointers() []bool {
	return pointersAt(mapWords, mapDir, mapFirst, mapLast)
}

// pointersAt tells of so many words that those with these numbers are pointers.
func pointersAt(words int, numbers ...int) []bool {
	ptrs := make([]bool, words)
	for _, i := range numbers {
		ptrs[i] = true
	}
	return ptrs
}

// word answers word i of the object at addr; 0, if there is none.
func (s scope) word(addr, i int) uint64 {
	v, _ := s.memory.Get(addr, i)
	return v
}

// named answers the address that word i of the object at addr holds.
func (s scope) named(addr, i int) int {
	return address(s.word(addr, i))
}

func (s scope) set(addr, i int, v uint64) {
	s.memory.Set(addr, i, v)
}

// read answers all words of the object at addr; none, if no live object of this tag begins there.
func (s scope) read(addr, tag int) []uint64 {
	info, e := s.memory.Info(addr)
	if e != api.OK || info.Tag != tag {
		return nil
	}
	words := make([]uint64, info.Size/wordSize)
	for i := range words {
		words[i] = s.word(addr, i)
	}
	return words
}

// write lets the object at addr hold the words from word i on.
func (s scope) write(addr, i int, words []uint64) {
	for n, word := range words {
		s.set(addr, i+n, word)
	}
}

// check answers OK, if a live object begins at addr that has this tag and these pointers.
func (s scope) check(addr, tag int, ptrs []bool) api.Errno {
	info, e := s.memory.Info(addr)
	if e != api.OK {
		return e
	}
	found, _ := s.memory.Ptrs(addr)
	if info.Tag != tag || !slices.Equal(found, ptrs) {
		return api.ErrKind
	}
	return api.OK
}

// allLive tells whether all addresses are 0 or name live objects, each of which has a word 0.
func (s scope) allLive(addrs []int) bool {
	for _, addr := range addrs {
		if _, e := s.memory.Get(addr, 0); addr != 0 && e != api.OK {
			return false
		}
	}
	return true
}

// address answers the address that a word tells. Beyond every arena it might wrap round and be one then, so that it is 0, at which no object begins.
func address(word uint64) int {
	if word > api.MaxArena {
		return 0
	}
	return int(word)
}

// holder makes objects. What it holds outlives the cycles that run for them: what the caller holds, and what was made so far.
type holder struct {
	scope
	held []int
}

// object makes an object that holds the words, and answers its address.
func (h *holder) object(ptrs []bool, tag int, words []uint64) (int, api.Errno) {
	addr, e := h.memory.Alloc(ptrs, tag, h.held)
	if e != api.OK {
		return 0, e
	}
	h.held = append(h.held, addr)
	h.write(addr, 0, words)
	return addr, api.OK
}
