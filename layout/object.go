package layout

import (
	"slices"

	"heddle/api"
	"heddle/memory"
)

const (
	// tagStr is the tag of all objects that hold the bytes of a string.
	tagStr = 1 << 20
	// wordSize is how many bytes a word has.
	wordSize = 8
	byteBits = 8
)

// isLive tells whether a live object begins at addr. Every object has a word 0.
func isLive(m *memory.Memory, addr int) bool {
	_, e := m.Get(addr, 0)
	return e == api.OK
}

// allLive tells whether all addresses are 0 or name live objects.
func allLive(m *memory.Memory, addrs []int) bool {
	for _, addr := range addrs {
		if addr != 0 && !isLive(m, addr) {
			return false
		}
	}
	return true
}

// isObject answers OK, if a live object begins at addr that has this tag, as many words as ptrs has entries, and these pointers.
func isObject(m *memory.Memory, addr, tag int, ptrs []bool) api.Errno {
	info, e := m.Info(addr)
	if e != api.OK {
		return e
	}
	found, _ := m.Ptrs(addr)
	if info.Tag != tag || !slices.Equal(found, ptrs) {
		return api.ErrKind
	}
	return api.OK
}

// read answers all words of the live object at addr.
func read(m *memory.Memory, addr int) []uint64 {
	info, _ := m.Info(addr)
	words := make([]uint64, info.Size/wordSize)
	for i := range words {
		words[i], _ = m.Get(addr, i)
	}
	return words
}

// write lets the object at addr hold the words.
func write(m *memory.Memory, addr int, words []uint64) api.Errno {
	for i, word := range words {
		if e := m.Set(addr, i, word); e != api.OK {
			return e
		}
	}
	return api.OK
}

// address answers the address that a word tells. Beyond every arena it might wrap round and be one then, so that it is 0, at which no object begins.
func address(word uint64) int {
	if word > api.MaxArena {
		return 0
	}
	return int(word)
}

// wordsFor answers how many words hold so many bytes.
func wordsFor(bytes int) int {
	return (bytes + wordSize - 1) / wordSize
}

// packed answers the bytes of a string in as few words as hold them.
func packed(s string) []uint64 {
	words := make([]uint64, wordsFor(len(s)))
	for i := range len(s) {
		words[i/wordSize] |= uint64(s[i]) << (i % wordSize * byteBits)
	}
	return words
}

// unpacked answers the string of that length with which the words begin. It is not ok, if they hold anything behind it.
func unpacked(words []uint64, length int) (string, bool) {
	bytes := make([]byte, len(words)*wordSize)
	for i := range bytes {
		bytes[i] = byte(words[i/wordSize] >> (i % wordSize * byteBits))
	}
	for _, rest := range bytes[length:] {
		if rest != 0 {
			return "", false
		}
	}
	return string(bytes[:length]), true
}
