package layout

import (
	"slices"

	"heddle/api"
	"heddle/memory"
	"heddle/types"
	"heddle/walk"
)

// saver writes values in words, and makes the objects that they ask for.
type saver struct {
	memory *memory.Memory
	types  []api.Type
	// What has to outlive the next object's coming: the caller's roots, what the value names, and the objects that have come so far.
	held []int
}

// save answers a sound value of type t in words.
func save(m *memory.Memory, ts []api.Type, t int, v []api.Cell, roots []int) ([]uint64, api.Errno) {
	// The spare room of the roots is the caller's, so the list is one of its own.
	s := saver{memory: m, types: ts, held: slices.Concat(roots, walk.Names(ts, t, v))}
	if !allLive(m, s.held) {
		return nil, api.ErrNone
	}
	return s.value(t, v)
}

func (s *saver) value(t int, v []api.Cell) ([]uint64, api.Errno) {
	var words []uint64
	for i, kind := range walk.Kinds(s.types, t) {
		more, e := s.cell(kind, v[i])
		if e != api.OK {
			return nil, e
		}
		words = append(words, more...)
	}
	return words, api.OK
}

func (s *saver) cell(kind int, c api.Cell) ([]uint64, api.Errno) {
	switch kind {
	case api.KStr:
		return s.text(c.S)
	case api.KIface:
		return s.box(c)
	}
	return []uint64{c.N}, api.OK
}

func (s *saver) text(text string) ([]uint64, api.Errno) {
	if text == "" {
		return []uint64{0, 0}, api.OK
	}
	words := packed(text)
	addr, e := s.object(make([]bool, len(words)), tagStr, words)
	if e != api.OK {
		return nil, e
	}
	return []uint64{uint64(addr), uint64(len(text))}, api.OK
}

func (s *saver) box(c api.Cell) ([]uint64, api.Errno) {
	if c.T == 0 {
		return []uint64{0, 0}, api.OK
	}
	t := c.T - 1
	words, e := s.value(t, c.Box)
	if e != api.OK {
		return nil, e
	}
	ptrs, _ := types.Pointers(s.types, t)
	addr, e := s.object(ptrs, t, words)
	if e != api.OK {
		return nil, e
	}
	return []uint64{uint64(c.T), uint64(addr)}, api.OK
}

// object makes an object that holds the words, and answers its address.
func (s *saver) object(ptrs []bool, tag int, words []uint64) (int, api.Errno) {
	addr, e := s.memory.Alloc(ptrs, tag, s.held)
	if e != api.OK {
		return 0, e
	}
	s.held = append(s.held, addr)
	return addr, write(s.memory, addr, words)
}
