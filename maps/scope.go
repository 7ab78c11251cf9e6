package maps

import (
	"slices"

	"heddle/api"
	"heddle/cells"
	"heddle/equal"
	"heddle/memory"
	"heddle/types"
	"heddle/walk"
)

// scope is where a call takes place: a memory, and a type of maps in a sound table.
type scope struct {
	memory *memory.Memory
	types  []api.Type
	t      int
}

// open answers the scope of a call, or the errors that all calls share.
func open(m *memory.Memory, ts []api.Type, t int) (scope, api.Errno) {
	if _, e := types.Words(ts, t); e != api.OK {
		return scope{}, e
	}
	if m == nil {
		return scope{}, api.ErrArg
	}
	if ts[t].Kind != api.KMap {
		return scope{}, api.ErrKind
	}
	return scope{m, ts, t}, api.OK
}

// key answers the type of the maps' keys.
func (s scope) key() int { return s.types[s.t].Key }

// elem answers the type of the maps' values.
func (s scope) elem() int { return s.types[s.t].Elem }

// holding answers all that has to outlive a put, but for the map: the roots, and what the key and the value name.
func (s scope) holding(key, val []api.Cell, roots []int) ([]int, api.Errno) {
	if e := cells.Check(s.types, s.key(), key); e != api.OK {
		return nil, e
	}
	if e := cells.Check(s.types, s.elem(), val); e != api.OK {
		return nil, e
	}
	held := slices.Concat(roots, walk.Names(s.types, s.key(), key), walk.Names(s.types, s.elem(), val))
	if !s.allLive(held) {
		return nil, api.ErrNone
	}
	return held, api.OK
}

// lookUp answers where the entry with this key lies, of a nil map nowhere.
func (s scope) lookUp(addr int, key []api.Cell, seed uint64) (spot, api.Errno) {
	// The salt shows in keys alone that equal no entry's.
	hash, e := equal.Hash(s.types, s.key(), key, seed, 0)
	if e == api.OK {
		e = s.checkMapOrNil(addr)
	}
	if e != api.OK {
		return spot{}, e
	}
	return s.find(addr, hash, key), api.OK
}

// checkMap answers OK, if a map begins at addr.
func (s scope) checkMap(addr int) api.Errno {
	return s.check(addr, tagMap+s.t, mapPointers())
}

// checkMapOrNil answers OK, if a map begins at addr, or addr is 0.
func (s scope) checkMapOrNil(addr int) api.Errno {
	if addr == 0 {
		return api.OK
	}
	return s.checkMap(addr)
}

// checkIter answers OK, if an iterator begins at addr.
func (s scope) checkIter(addr int) api.Errno {
	if addr == 0 {
		return api.ErrNil
	}
	return s.check(addr, tagIter+s.t, iterPointers())
}
