package maps

import (
	"iter"
	"math"
	"slices"

	"heddle/api"
	"heddle/layout"
	"heddle/types"
)

// gone is the number of entries that have left their map. It is above all numbers that entries have.
const gone = math.MaxUint64

// entries answers an iterator over the entries of a list, with their numbers, from one on. An entry may go while its turn is.
func (s scope) entries(first int) iter.Seq2[uint64, int] {
	return func(yield func(uint64, int) bool) {
		entry, number := first, s.word(first, entryNumber)
		for entry != 0 {
			next := s.named(entry, entryNext)
			behind := s.word(next, entryNumber)
			// Numbers rise. A list that was written by hand might be a circle.
			if !yield(number, entry) || behind <= number {
				return
			}
			entry, number = next, behind
		}
	}
}

// change lets an entry have another value, and answers its number.
func (h *holder) change(entry int, val []api.Cell) (int, api.Errno) {
	words, e := h.save(h.elem(), val)
	if e != api.OK {
		return 0, e
	}
	n, _ := types.Words(h.types, h.key())
	h.write(entry, entryKey+n, words)
	return int(h.word(entry, entryNumber)), api.OK
}

// add adds an entry to a map that has none with this key, where it was looked for, and answers its number. The map changes when all that is to be made has found room.
func (h *holder) add(addr int, at spot, key, val []api.Cell) (int, api.Errno) {
	number := h.word(addr, mapNext)
	entry, e := h.entry(number, key, val)
	if e != api.OK {
		return 0, e
	}
	if e := h.enter(addr, at, entry); e != api.OK {
		return 0, e
	}
	h.link(addr, entry)
	h.set(addr, mapNext, number+1)
	return int(number), api.OK
}

// entry makes an entry that is in no map yet.
func (h *holder) entry(number uint64, key, val []api.Cell) (int, api.Errno) {
	first, e := h.save(h.key(), key)
	if e != api.OK {
		return 0, e
	}
	second, e := h.save(h.elem(), val)
	if e != api.OK {
		return 0, e
	}
	own := make([]uint64, entryKey)
	own[entryNumber] = number
	ofKey, _ := types.Pointers(h.types, h.key())
	ofVal, _ := types.Pointers(h.types, h.elem())
	ptrs := slices.Concat(pointersAt(entryKey, entryPrev, entryNext), ofKey, ofVal)
	return h.object(ptrs, tagEntry, slices.Concat(own, first, second))
}

// save answers a value of type t in words, and holds what they name.
func (h *holder) save(t int, v []api.Cell) ([]uint64, api.Errno) {
	words, e := layout.Save(h.memory, h.types, t, v, h.held)
	if e != api.OK {
		return nil, e
	}
	names, e := layout.Named(h.types, t, words)
	h.held = slices.AppendSeq(h.held, names)
	return words, e
}

// keyOf answers the key of an entry.
func (s scope) keyOf(entry int) ([]api.Cell, api.Errno) {
	key, _ := s.split(entry)
	return layout.Load(s.memory, s.types, s.key(), key)
}

// valueOf answers the value of an entry.
func (s scope) valueOf(entry int) ([]api.Cell, api.Errno) {
	_, val := s.split(entry)
	return layout.Load(s.memory, s.types, s.elem(), val)
}

// split answers the words of an entry's key and of its value; none, which are no value's, if it is no entry that has so many.
func (s scope) split(entry int) (key, val []uint64) {
	words := s.read(entry, tagEntry)
	n, _ := types.Words(s.types, s.key())
	if len(words) < entryKey+n {
		return nil, nil
	}
	return words[entryKey : entryKey+n], words[entryKey+n:]
}

// link puts an entry at the end of a map's list.
func (s scope) link(addr, entry int) {
	s.join(addr, s.named(addr, mapLast), entry)
	s.join(addr, entry, 0)
	s.set(addr, mapCount, s.word(addr, mapCount)+1)
}

// unlink takes an entry out of a map's list.
func (s scope) unlink(addr, entry int) {
	s.join(addr, s.named(entry, entryPrev), s.named(entry, entryNext))
	s.set(addr, mapCount, s.word(addr, mapCount)-1)
	s.dismiss(entry)
}

// join makes two entries neighbours. A 0 stands for an end of the list, of which the map knows.
func (s scope) join(addr, prev, next int) {
	if prev == 0 {
		s.set(addr, mapFirst, uint64(next))
	} else {
		s.set(prev, entryNext, uint64(next))
	}
	if next == 0 {
		s.set(addr, mapLast, uint64(prev))
	} else {
		s.set(next, entryPrev, uint64(prev))
	}
}

// dismiss marks an entry as gone. Iterators that stand at it may outlive it, so that it names nothing any more.
func (s scope) dismiss(entry int) {
	s.write(entry, 0, make([]uint64, len(s.read(entry, tagEntry))))
	s.set(entry, entryNumber, gone)
}
