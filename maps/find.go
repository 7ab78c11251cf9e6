package maps

import (
	"iter"
	"math/bits"

	"heddle/api"
	"heddle/equal"
	"heddle/table"
)

// A table lies in a chain of pieces. The first word of each names the next one; no piece takes more than the greatest slot, so that tables find room wherever entries do.
const (
	pieceNext = iota
	pieceHead

	pieceWords = 16
	pieceRoom  = pieceWords - pieceHead
	// maxPieces is how many find room in the greatest arena.
	maxPieces = api.MaxArena / wordSize / pieceWords
)

// hashBits is how many bits a hash has.
const hashBits = 64

// spot is a table of a directory, where a hash belongs, and an entry that was found there.
type spot struct {
	hash  uint64
	chain int
	words []uint64
	entry int
}

// find answers where the entry of a map lies whose key equals this one; its entry is 0, if there is none.
func (s scope) find(addr int, hash uint64, key []api.Cell) spot {
	at := s.tableOf(addr, hash)
	ids, _ := table.Find(at.words, hash)
keys:
	for id := range ids {
		entry := address(id)
		own, e := s.keyOf(entry)
		if e != api.OK {
			continue keys
		}
		if same, _ := equal.Equal(s.types, s.key(), own, key); same {
			at.entry = entry
			break keys
		}
	}
	return at
}

// tableOf answers the table of a hash; one without words, which is no table, if the map has no directory.
func (s scope) tableOf(addr int, hash uint64) spot {
	d := s.named(addr, mapDir)
	info, e := s.memory.Info(d)
	if e != api.OK {
		return spot{hash: hash}
	}
	depth := bits.Len(uint(info.Size/wordSize)) - 1
	chain := s.named(d, int(hash>>(hashBits-depth)))
	return spot{hash: hash, chain: chain, words: s.chained(chain)}
}

// leave takes a spot's entry out of its table.
func (s scope) leave(at spot) {
	if words, e := table.Delete(at.words, at.hash, uint64(at.entry)); e == api.OK {
		s.rewrite(at.chain, words)
	}
}

// pieces answers an iterator over the addresses and the words of a chain's pieces.
func (s scope) pieces(chain int) iter.Seq2[int, []uint64] {
	return func(yield func(int, []uint64) bool) {
		addr := chain
		// A chain that was written by hand might be a circle.
		for range maxPieces {
			words := s.read(addr, tagPiece)
			if len(words) < pieceHead || len(words) > pieceWords || !yield(addr, words[pieceHead:]) {
				return
			}
			addr = address(words[pieceNext])
		}
	}
}

// chained answers the words that lie in a chain.
func (s scope) chained(chain int) []uint64 {
	var words []uint64
	for _, part := range s.pieces(chain) {
		words = append(words, part...)
	}
	return words
}

// rewrite lets a chain hold as many other words as it does. Nearly all of them are the same.
func (s scope) rewrite(chain int, words []uint64) {
	for addr, part := range s.pieces(chain) {
		room := min(len(part), len(words))
		for i, word := range words[:room] {
			if word != part[i] {
				s.set(addr, pieceHead+i, word)
			}
		}
		words = words[room:]
	}
}
