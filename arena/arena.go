// Package arena is layer 1: bytes, read and written in little-endian numbers. See shared/doc/01-arena.md.
package arena

import (
	"heddle/api"
)

// Arena is a list of bytes whose length never changes. Its zero value has none.
type Arena struct {
	bytes []byte
}

// New answers an arena of size bytes, all 0.
func New(size int) (*Arena, api.Errno) {
	if size < 0 || size > api.MaxArena {
		return nil, api.ErrArg
	}
	return &Arena{bytes: make([]byte, size)}, api.OK
}

// Size is how many bytes there are.
func (a *Arena) Size() int {
	if a == nil {
		return 0
	}
	return len(a.bytes)
}

// Load answers the number of n bytes (1, 2, 4 or 8) that stands at at, the lowest byte first.
func (a *Arena) Load(at, n int) (uint64, api.Errno) {
	place, e := a.number(at, n)
	if e != api.OK {
		return 0, e
	}
	var v uint64
	for i, b := range place {
		v |= uint64(b) << (8 * i)
	}
	return v, api.OK
}

// Store writes the lowest n bytes (1, 2, 4 or 8) of v to at, the lowest first.
func (a *Arena) Store(at, n int, v uint64) api.Errno {
	place, e := a.number(at, n)
	if e != api.OK {
		return e
	}
	for i := range place {
		place[i] = byte(v >> (8 * i))
	}
	return api.OK
}

// Bytes answers a copy of the n bytes from at on.
func (a *Arena) Bytes(at, n int) ([]byte, api.Errno) {
	place, e := a.part(at, n)
	if e != api.OK {
		return nil, e
	}
	out := make([]byte, n)
	copy(out, place)
	return out, api.OK
}

// Write copies all of b to the bytes from at on.
func (a *Arena) Write(at int, b []byte) api.Errno {
	place, e := a.part(at, len(b))
	if e != api.OK {
		return e
	}
	copy(place, b)
	return api.OK
}

// Move copies the n bytes from from on to those from to on. The two places may overlap.
func (a *Arena) Move(to, from, n int) api.Errno {
	source, e := a.part(from, n)
	if e != api.OK {
		return e
	}
	target, e := a.part(to, n)
	if e != api.OK {
		return e
	}
	copy(target, source)
	return api.OK
}

// Clear makes the n bytes from at on 0.
func (a *Arena) Clear(at, n int) api.Errno {
	place, e := a.part(at, n)
	if e != api.OK {
		return e
	}
	clear(place)
	return api.OK
}

// number is part, for the lengths that a number may have. The length is looked at ahead of the place, since ErrArg stands before ErrRange.
func (a *Arena) number(at, n int) ([]byte, api.Errno) {
	switch n {
	case 1, 2, 4, 8:
		return a.part(at, n)
	}
	return nil, api.ErrArg
}

// part answers the n bytes from at on, which are still the arena's own, so they never leave the package. The third index keeps whoever holds them from growing into the bytes behind.
func (a *Arena) part(at, n int) ([]byte, api.Errno) {
	if a == nil || n < 0 {
		return nil, api.ErrArg
	}
	// n is held against what is left behind at, since at + n may wrap round.
	if at < 0 || n > len(a.bytes)-at {
		return nil, api.ErrRange
	}
	return a.bytes[at : at+n : at+n], api.OK
}
