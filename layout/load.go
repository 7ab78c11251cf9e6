package layout

import (
	"heddle/api"
	"heddle/memory"
	"heddle/types"
	"heddle/walk"
)

// loader reads values from words, as far as these are sound.
type loader struct {
	memory *memory.Memory
	types  []api.Type
	// How many cells were begun so far, those in boxes included. Boxes may name one another in a circle, so that nothing but the limit ends the walk.
	size int
}

// load answers the value of type t that the words tell.
func load(m *memory.Memory, ts []api.Type, t int, words []uint64) ([]api.Cell, api.Errno) {
	n, _ := types.Words(ts, t)
	if len(words) != n {
		return nil, api.ErrForm
	}
	l := loader{memory: m, types: ts}
	v, ok := l.value(t, words)
	if !ok {
		return nil, api.ErrForm
	}
	return v, api.OK
}

// value reads as many words as type t has.
func (l *loader) value(t int, words []uint64) ([]api.Cell, bool) {
	kinds := walk.Kinds(l.types, t)
	l.size += len(kinds)
	if l.size > api.MaxCells {
		return nil, false
	}
	v := make([]api.Cell, len(kinds))
	at, ok := 0, true
	for i, kind := range kinds {
		switch kind {
		case api.KStr:
			v[i], ok = l.text(words[at], words[at+1])
			at += 2
		case api.KIface:
			v[i], ok = l.box(words[at], words[at+1])
			at += 2
		default:
			v[i], ok = l.number(kind, words[at])
			at++
		}
		if !ok {
			return nil, false
		}
	}
	return v, true
}

func (l *loader) number(kind int, word uint64) (api.Cell, bool) {
	c := api.Cell{N: word}
	switch kind {
	case api.KBool:
		return c, word <= 1
	case api.KPtr, api.KMap, api.KIter:
		return c, word == 0 || isLive(l.memory, address(word))
	}
	return c, true
}

func (l *loader) text(word, length uint64) (api.Cell, bool) {
	if word == 0 && length == 0 {
		return api.Cell{}, true
	}
	if length > api.MaxStr {
		return api.Cell{}, false
	}
	// Of length 0 no object has so few words.
	words, ok := l.object(word, tagStr, make([]bool, wordsFor(int(length))))
	if !ok {
		return api.Cell{}, false
	}
	s, ok := unpacked(words, int(length))
	return api.Cell{S: s}, ok
}

func (l *loader) box(number, word uint64) (api.Cell, bool) {
	if number == 0 {
		return api.Cell{}, word == 0
	}
	if number > uint64(len(l.types)) {
		return api.Cell{}, false
	}
	t := int(number - 1)
	if kind := l.types[t].Kind; kind == api.KIface || kind == api.KIter {
		return api.Cell{}, false
	}
	ptrs, _ := types.Pointers(l.types, t)
	words, ok := l.object(word, t, ptrs)
	if !ok {
		return api.Cell{}, false
	}
	v, ok := l.value(t, words)
	return api.Cell{T: t + 1, Box: v}, ok
}

// object answers the words of the live object that a word names, if it has this tag and these pointers.
func (l *loader) object(word uint64, tag int, ptrs []bool) ([]uint64, bool) {
	addr := address(word)
	if isObject(l.memory, addr, tag, ptrs) != api.OK {
		return nil, false
	}
	return read(l.memory, addr), true
}
