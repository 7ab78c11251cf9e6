package maps

// The words of an iterator: its map; the entry that it gave last, or begins with; the numbers from which on and below which it gives entries now; and the number that it began with. Its first round is up to the last entry that its map had then, its second one from number 0 on up to where it began.
const (
	iterMap = iota
	iterAt
	iterFrom
	iterTo
	iterStart
	iterWords
)

func iterPointers() []bool {
	return pointersAt(iterWords, iterMap, iterAt)
}

// turn is an entry whose turn it is, its number, and below which number its round ends.
type turn struct {
	entry  int
	number uint64
	to     uint64
}

// begin answers the words of a new iterator over a map, which begins as many entries behind the first one as draw says.
func (s scope) begin(addr int, draw uint64) []uint64 {
	words := make([]uint64, iterWords)
	words[iterMap] = uint64(addr)
	ahead := draw % max(s.word(addr, mapCount), 1)
	for number, entry := range s.entries(s.named(addr, mapFirst)) {
		if ahead == 0 {
			words[iterAt] = uint64(entry)
			words[iterFrom], words[iterTo], words[iterStart] = number, s.word(addr, mapNext), number
			break
		}
		ahead--
	}
	return words
}

// next answers whose turn it is. It is not ok, if nothing more comes.
func (s scope) next(it int) (turn, bool) {
	from, to, start := s.word(it, iterFrom), s.word(it, iterTo), s.word(it, iterStart)
	if one, ok := s.seek(it, from, to); ok || to == start {
		return one, ok
	}
	return s.seek(it, 0, start)
}

// seek answers the first entry of an iterator's map from one number on and below another.
func (s scope) seek(it int, from, to uint64) (turn, bool) {
	begin := s.named(s.named(it, iterMap), mapFirst)
	// What was given last is near, unless it is gone, or the round begins.
	if at := s.named(it, iterAt); s.word(at, entryNumber) <= from {
		begin = at
	}
	for number, entry := range s.entries(begin) {
		if number >= from {
			return turn{entry, number, to}, number < to
		}
	}
	return turn{}, false
}

// pass lets the turn go over to what comes behind this entry.
func (s scope) pass(it int, one turn) {
	s.set(it, iterAt, uint64(one.entry))
	s.set(it, iterFrom, one.number+1)
	s.set(it, iterTo, one.to)
}
