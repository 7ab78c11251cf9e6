package cells

import (
	"heddle/api"
)

// Same tells whether two lists are the same, cell by cell, boxes included.
func Same(v, w []api.Cell) bool {
	known := merged{}
	var same func(v, w []api.Cell) bool
	same = func(v, w []api.Cell) bool {
		if len(v) != len(w) {
			return false
		}
		if len(v) == 0 || known.merge(placeOf(v), placeOf(w)) {
			return true
		}
		for i, c := range v {
			d := w[i]
			if c.N != d.N || c.S != d.S || c.T != d.T || !same(c.Box, d.Box) {
				return false
			}
		}
		return true
	}
	return same(v, w)
}

// place tells lists apart by where they lie.
type place struct {
	first  *api.Cell
	length int
}

func placeOf(v []api.Cell) place {
	return place{first: &v[0], length: len(v)}
}

// merged leads from places to others that hold the same, unless a difference was found that decides all. It ends the walk through boxes that hold themselves, and keeps it short where many share one box.
type merged map[place]place

// merge tells whether p and q were merged already, and merges them.
func (m merged) merge(p, q place) bool {
	p, q = m.last(p), m.last(q)
	if p == q {
		return true
	}
	m[p] = q
	return false
}

// last answers the place that stands for all that were merged with p.
func (m merged) last(p place) place {
	for {
		next, ok := m[p]
		if !ok {
			return p
		}
		// Ways grow long where lists are merged in a row: each walk halves its own.
		if behind, ok := m[next]; ok {
			m[p] = behind
		}
		p = next
	}
}
