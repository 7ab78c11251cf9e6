package heap

import (
	"heddle/api"
)

// span is a used run of pages and what lies in it.
type span struct {
	start, pages int
	// How many bytes a slot has.
	room int
	// How many slots hold an object.
	used  int
	slots []slot
}

// slot is what is known of the object in a slot. No object has size 0, so that such a slot is free.
type slot struct {
	size, tag int
}

// newSpan answers a span whose slots are all free.
func newSpan(start, pages, room int) *span {
	return &span{start: start, pages: pages, room: room, slots: make([]slot, pages*api.PageSize/room)}
}

// addr is where slot i begins.
func (s *span) addr(i int) int {
	return pageAddr(s.start) + i*s.room
}

// object tells the object in slot i.
func (s *span) object(i int) api.Object {
	return api.Object{Addr: s.addr(i), Size: s.slots[i].size, Tag: s.slots[i].tag}
}

// take gives an object the lowest free slot, and answers its number.
func (s *span) take(size, tag int) int {
	i := 0
	for s.slots[i].size > 0 {
		i++
	}
	s.slots[i] = slot{size: size, tag: tag}
	s.used++
	return i
}

// drop makes slot i free.
func (s *span) drop(i int) {
	s.slots[i] = slot{}
	s.used--
}
