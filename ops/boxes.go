package ops

import (
	"heddle/api"
	"heddle/cells"
	"heddle/types"
)

// Box answers the cell of an interface that holds v as type t.
func Box(ts []api.Type, t int, v []api.Cell) (api.Cell, api.Errno) {
	if e := cells.Check(ts, t, v); e != api.OK {
		return api.Cell{}, e
	}
	if !boxable(ts[t]) {
		return api.Cell{}, api.ErrKind
	}
	// The interface's own cell is one more than those that it holds.
	if 1+cells.Size(v) > api.MaxCells {
		return api.Cell{}, api.ErrLarge
	}
	return api.Cell{T: t + 1, Box: copied(v)}, api.OK
}

// Unbox answers the value of type t that the cell of an interface holds.
func Unbox(ts []api.Type, t int, c api.Cell) ([]api.Cell, api.Errno) {
	ok, e := Holds(ts, t, c)
	if e != api.OK {
		return nil, e
	}
	if !ok {
		return nil, api.ErrType
	}
	return copied(c.Box), api.OK
}

// Holds answers whether the cell of an interface holds a value of type t.
func Holds(ts []api.Type, t int, c api.Cell) (bool, api.Errno) {
	if _, e := types.Width(ts, t); e != api.OK {
		return false, e
	}
	if !isIface(ts, c) {
		return false, api.ErrForm
	}
	if !boxable(ts[t]) {
		return false, api.ErrKind
	}
	return c.T == t+1, api.OK
}

// isIface tells whether c is a sound cell of an interface. The table may have no KIface, and no room for one, so it is asked of what c holds.
func isIface(ts []api.Type, c api.Cell) bool {
	if c.N != 0 || c.S != "" {
		return false
	}
	if c.T == 0 {
		return len(c.Box) == 0
	}
	return cells.Check(ts, c.T-1, c.Box) == api.OK && boxable(ts[c.T-1])
}

// boxable tells whether an interface may hold values of a type.
func boxable(one api.Type) bool {
	return one.Kind != api.KIface && one.Kind != api.KIter
}

// copied answers a sound value in memory of its own, boxes and texts included.
func copied(v []api.Cell) []api.Cell {
	list := make([]api.Cell, len(v))
	for i, c := range v {
		list[i] = api.Cell{N: c.N, S: ownText(c.S), T: c.T}
		if c.T != 0 {
			list[i].Box = copied(c.Box)
		}
	}
	return list
}
