package equal

import (
	"math"

	"heddle/api"
	"heddle/walk"
)

// Hash answers the hash of a value of type t. Each nan in it counts as salt does.
func Hash(ts []api.Type, t int, v []api.Cell, seed, salt uint64) (uint64, api.Errno) {
	if e := check(ts, t, v); e != api.OK {
		return 0, e
	}
	h := hasher{types: ts, salt: salt, sum: seed}
	if !h.value(t, v) {
		return 0, api.ErrHash
	}
	return h.sum, api.OK
}

// Mix answers x with its bits mixed; no two numbers become one.
func Mix(x uint64) uint64 {
	x ^= x >> 32
	x *= 0x9E3779B97F4A7C15
	x ^= x >> 29
	x *= 0xBF58476D1CE4E5B9
	x ^= x >> 32
	return x
}

// hasher folds numbers into a sum.
type hasher struct {
	types []api.Type
	salt  uint64
	sum   uint64
}

func (h *hasher) fold(x uint64) {
	h.sum = Mix(h.sum ^ x)
}

// value folds a sound value in. It is not ok, if an interface within it holds a type that can't be compared.
func (h *hasher) value(t int, v []api.Cell) bool {
	for i, kind := range walk.Kinds(h.types, t) {
		if !h.cell(kind, v[i]) {
			return false
		}
	}
	return true
}

func (h *hasher) cell(kind int, c api.Cell) bool {
	switch kind {
	case api.KFloat:
		h.float(c.N)
	case api.KStr:
		h.text(c.S)
	case api.KIface:
		return h.held(c)
	default:
		h.fold(c.N)
	}
	return true
}

// float folds a float in. Both zeros are equal, so that they count alike.
func (h *hasher) float(bits uint64) {
	switch f := math.Float64frombits(bits); {
	case f == 0:
		h.fold(0)
	case math.IsNaN(f):
		h.fold(h.salt)
	default:
		h.fold(bits)
	}
}

func (h *hasher) text(s string) {
	for i := range len(s) {
		h.fold(uint64(s[i]) + 1)
	}
	h.fold(uint64(len(s)))
}

// held folds an interface in, and what it holds.
func (h *hasher) held(c api.Cell) bool {
	h.fold(uint64(c.T))
	if c.T == 0 {
		return true
	}
	return compared(h.types, c.T-1) && h.value(c.T-1, c.Box)
}
