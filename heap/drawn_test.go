package heap_test

import (
	"bytes"
	"encoding/binary"
	"math/rand"
	"slices"
	"testing"

	"heddle/api"
	"heddle/heap"
)

// model is what the chapter says, kept as lists that are searched from the beginning at each call.
type model struct {
	pages   int
	spans   []api.Span
	objects []api.Object
	bytes   map[int][]byte // of each object, by its address
}

// room answers the slot of a size: a class's, or whole pages.
func room(size int) int {
	for _, slot := range []int{8, 16, 24, 32, 48, 64, 96, 128} {
		if size <= slot {
			return slot
		}
	}
	for slot := 256; ; slot += 256 {
		if size <= slot {
			return slot
		}
	}
}

func (m *model) alloc(size, tag int) (int, api.Errno) {
	if size < 1 || size > 65536 || tag < 0 || tag > maxTag {
		return 0, api.ErrArg
	}
	addr, i := m.place(room(size))
	if i < 0 {
		return 0, api.ErrFull
	}
	m.spans[i].Used++
	m.objects = append(m.objects, object(addr, size, tag))
	slices.SortFunc(m.objects, func(a, b api.Object) int { return a.Addr - b.Addr })
	m.bytes[addr] = make([]byte, size)
	return addr, api.OK
}

// place answers the slot that the chapter's words choose, and the number of its span (below 0: there is none).
func (m *model) place(slot int) (int, int) {
	for i, s := range m.spans {
		for k := 0; k < s.Slots && s.Slot == slot; k++ {
			if addr := (s.Start+1)*256 + k*slot; m.bytes[addr] == nil {
				return addr, i
			}
		}
	}
	n := (slot + 255) / 256
	for start := 0; start+n <= m.pages; start++ {
		if m.allFree(start, n) {
			m.spans = append(m.spans, span(start, n, slot, n*256/slot, 0))
			slices.SortFunc(m.spans, func(a, b api.Span) int { return a.Start - b.Start })
			return (start + 1) * 256, slices.IndexFunc(m.spans, func(s api.Span) bool { return s.Start == start })
		}
	}
	return 0, -1
}

func (m *model) allFree(start, n int) bool {
	for page := start; page < start+n; page++ {
		if m.spanOf(page) >= 0 {
			return false
		}
	}
	return true
}

// spanOf answers the number of the span in which a page lies, or -1.
func (m *model) spanOf(page int) int {
	return slices.IndexFunc(m.spans, func(s api.Span) bool { return s.Start <= page && page < s.Start+s.Pages })
}

func (m *model) free(addr int) api.Errno {
	if m.bytes[addr] == nil {
		return api.ErrNone
	}
	delete(m.bytes, addr)
	m.objects = slices.DeleteFunc(m.objects, func(o api.Object) bool { return o.Addr == addr })
	i := m.spanOf(addr/256 - 1)
	m.spans[i].Used--
	m.spans = slices.DeleteFunc(m.spans, func(s api.Span) bool { return s.Used == 0 })
	return api.OK
}

func (m *model) holes() []api.Run {
	var out []api.Run
	for page := range m.pages {
		switch last := len(out) - 1; {
		case m.spanOf(page) >= 0:
		case last >= 0 && out[last].Start+out[last].Len == page:
			out[last].Len++
		default:
			out = append(out, hole(page, 1))
		}
	}
	return out
}

// part answers the bytes that lie n from addr on in one object, or nil.
func (m *model) part(addr, n int) []byte {
	for base, b := range m.bytes {
		if at := addr - base; at >= 0 && at < len(b) && at+n <= len(b) {
			return b[at : at+n]
		}
	}
	return nil
}

// check holds all that the heap tells against the model.
func (m *model) check(t *testing.T, h *heap.Heap) {
	t.Helper()
	wantObjects(t, h, m.objects...)
	wantSpans(t, h, m.spans...)
	wantHoles(t, h, m.holes()...)
	bases := make([]int, (m.pages+2)*256)
	for base, b := range m.bytes {
		for i := range b {
			bases[base+i] = base
		}
		wantRead(t, h, base, len(b), b, api.OK)
	}
	for addr, base := range bases {
		want := api.OK
		if base == 0 {
			want = api.ErrNone
		}
		wantBase(t, h, addr, base, want)
	}
}

// drawSize answers a size, wrong now and then, small ones more often than large ones.
func drawSize(draw *rand.Rand) int {
	switch draw.Intn(8) {
	case 0:
		return draw.Intn(1000) - 1
	case 1:
		return []int{0, 8, 9, 16, 17, 24, 25, 32, 33, 48, 49, 64, 65, 96, 97, 128, 129, 256, 257, 512, 513, 65536, 65537}[draw.Intn(23)]
	}
	return 1 + draw.Intn(140)
}

// bytesCall draws one of the calls that read and write, and holds it against the model.
func (m *model) bytesCall(t *testing.T, h *heap.Heap, draw *rand.Rand) {
	addr, n := draw.Intn((m.pages+2)*256), draw.Intn(20)
	if len(m.objects) > 0 && draw.Intn(4) > 0 {
		o := m.objects[draw.Intn(len(m.objects))]
		addr = o.Addr + draw.Intn(o.Size+2) - 1
	}
	word, some := m.part(addr, 8), m.part(addr, n)
	switch draw.Intn(4) {
	case 0:
		if word == nil {
			wantLoad(t, h, addr, 0, api.ErrRange)
		} else {
			wantLoad(t, h, addr, binary.LittleEndian.Uint64(word), api.OK)
		}
	case 1:
		v := draw.Uint64()
		if word == nil {
			wantStore(t, h, addr, v, api.ErrRange)
		} else {
			wantStore(t, h, addr, v, api.OK)
			binary.LittleEndian.PutUint64(word, v)
		}
	case 2:
		if some == nil {
			wantRead(t, h, addr, n, nil, api.ErrRange)
		} else {
			wantRead(t, h, addr, n, some, api.OK)
		}
	case 3:
		b := bytes.Repeat([]byte{byte(draw.Intn(256))}, n)
		if some == nil {
			wantWrite(t, h, addr, b, api.ErrRange)
		} else {
			wantWrite(t, h, addr, b, api.OK)
			copy(some, b)
		}
	}
}

// P6.2 to P6.7, R3: drawn calls, wrong ones among them, answer as the model does, and leave what it leaves.
func TestDrawnCalls(t *testing.T) {
	draw := rand.New(rand.NewSource(6))
	for round := range 72 {
		pages := round % 12
		h, m := build(t, pages), &model{pages: pages, bytes: map[int][]byte{}}
		for step := range 150 {
			// Rounds fill up first and empty later, so that spans come and go.
			if allocs := 6 - 4*(step/50%2); draw.Intn(10) < allocs {
				size, tag := drawSize(draw), draw.Intn(5)-draw.Intn(20)/19*5
				_, fits := m.copy().alloc(size, 0)
				wantFits(t, h, size, fits == api.OK)
				addr, want := m.alloc(size, tag)
				wantAlloc(t, h, size, tag, addr, want)
			} else {
				addr := draw.Intn((pages + 2) * 256)
				if len(m.objects) > 0 && draw.Intn(10) > 0 {
					addr = m.objects[draw.Intn(len(m.objects))].Addr
				}
				wantFree(t, h, addr, m.free(addr))
			}
			for range 5 {
				m.bytesCall(t, h, draw)
			}
			m.check(t, h)
			if t.Failed() {
				t.Fatalf("round %d, step %d, %d pages", round, step, pages)
			}
		}
	}
}

// copy answers a model of its own, for a call that is only asked about.
func (m *model) copy() *model {
	c := &model{pages: m.pages, spans: slices.Clone(m.spans), objects: slices.Clone(m.objects), bytes: map[int][]byte{}}
	for addr, b := range m.bytes {
		c.bytes[addr] = b
	}
	return c
}
