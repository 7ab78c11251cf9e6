package heap_test

import (
	"bytes"
	"math"
	"reflect"
	"slices"
	"testing"

	"heddle/api"
	"heddle/heap"
)

const maxTag = 2147483647

func object(addr, size, tag int) api.Object { return api.Object{Addr: addr, Size: size, Tag: tag} }

func hole(start, n int) api.Run { return api.Run{Start: start, Len: n} }

func span(start, pages, slot, slots, used int) api.Span {
	return api.Span{Start: start, Pages: pages, Slot: slot, Slots: slots, Used: used}
}

func build(t *testing.T, pages int) *heap.Heap {
	t.Helper()
	h, e := heap.New(pages)
	if h == nil || e != api.OK {
		t.Fatalf("New(%d) = %v, %d", pages, h, e)
	}
	return h
}

// made answers a heap of so many pages with objects of the sizes, tagged 1, 2 and so on.
func made(t *testing.T, pages int, sizes ...int) *heap.Heap {
	t.Helper()
	h := build(t, pages)
	for i, size := range sizes {
		if _, e := h.Alloc(size, i+1); e != api.OK {
			t.Fatalf("Alloc(%d, %d): %d", size, i+1, e)
		}
	}
	return h
}

func wantAlloc(t *testing.T, h *heap.Heap, size, tag, addr int, want api.Errno) {
	t.Helper()
	if got, e := h.Alloc(size, tag); got != addr || e != want {
		t.Errorf("Alloc(%d, %d) = %d, %d, want %d, %d", size, tag, got, e, addr, want)
	}
}

func wantFree(t *testing.T, h *heap.Heap, addr int, want api.Errno) {
	t.Helper()
	if e := h.Free(addr); e != want {
		t.Errorf("Free(%d) = %d, want %d", addr, e, want)
	}
}

func wantBase(t *testing.T, h *heap.Heap, addr, base int, want api.Errno) {
	t.Helper()
	if got, e := h.Base(addr); got != base || e != want {
		t.Errorf("Base(%d) = %d, %d, want %d, %d", addr, got, e, base, want)
	}
}

func wantInfo(t *testing.T, h *heap.Heap, addr int, o api.Object, want api.Errno) {
	t.Helper()
	if got, e := h.Info(addr); !sameObject(got, o) || e != want {
		t.Errorf("Info(%d) = %v, %d, want %v, %d", addr, got, e, o, want)
	}
}

// sameObject asks for no Refs on either side, too.
func sameObject(a, b api.Object) bool {
	return a.Addr == b.Addr && a.Size == b.Size && a.Tag == b.Tag && len(a.Refs) == 0 && len(b.Refs) == 0
}

func wantLoad(t *testing.T, h *heap.Heap, addr int, v uint64, want api.Errno) {
	t.Helper()
	if got, e := h.Load(addr); got != v || e != want {
		t.Errorf("Load(%d) = %#x, %d, want %#x, %d", addr, got, e, v, want)
	}
}

func wantStore(t *testing.T, h *heap.Heap, addr int, v uint64, want api.Errno) {
	t.Helper()
	if e := h.Store(addr, v); e != want {
		t.Errorf("Store(%d, %#x) = %d, want %d", addr, v, e, want)
	}
}

func wantRead(t *testing.T, h *heap.Heap, addr, n int, b []byte, want api.Errno) {
	t.Helper()
	if got, e := h.Read(addr, n); !bytes.Equal(got, b) || e != want {
		t.Errorf("Read(%d, %d) = % x, %d, want % x, %d", addr, n, got, e, b, want)
	}
}

func wantWrite(t *testing.T, h *heap.Heap, addr int, b []byte, want api.Errno) {
	t.Helper()
	if e := h.Write(addr, b); e != want {
		t.Errorf("Write(%d, % x) = %d, want %d", addr, b, e, want)
	}
}

func wantFits(t *testing.T, h *heap.Heap, size int, want bool) {
	t.Helper()
	if got := h.Fits(size); got != want {
		t.Errorf("Fits(%d) = %v, want %v", size, got, want)
	}
}

func wantObjects(t *testing.T, h *heap.Heap, want ...api.Object) {
	t.Helper()
	if got := slices.Collect(h.Objects()); !slices.EqualFunc(got, want, sameObject) {
		t.Errorf("Objects: %v, want %v", got, want)
	}
}

func wantSpans(t *testing.T, h *heap.Heap, want ...api.Span) {
	t.Helper()
	if got := slices.Collect(h.Spans()); !slices.Equal(got, want) {
		t.Errorf("Spans: %v, want %v", got, want)
	}
}

func wantHoles(t *testing.T, h *heap.Heap, want ...api.Run) {
	t.Helper()
	if got := slices.Collect(h.Holes()); !slices.Equal(got, want) {
		t.Errorf("Holes: %v, want %v", got, want)
	}
}

// told is all that a heap tells: what it holds, and the bytes of each object.
type told struct {
	objects []api.Object
	spans   []api.Span
	holes   []api.Run
	bytes   [][]byte
}

func tell(h *heap.Heap) told {
	w := told{slices.Collect(h.Objects()), slices.Collect(h.Spans()), slices.Collect(h.Holes()), nil}
	for _, o := range w.objects {
		b, _ := h.Read(o.Addr, o.Size)
		w.bytes = append(w.bytes, b)
	}
	return w
}

func wantTold(t *testing.T, what string, h *heap.Heap, want told) {
	t.Helper()
	if got := tell(h); !reflect.DeepEqual(got, want) {
		t.Errorf("%s: %v, want %v", what, got, want)
	}
}

// far answers numbers that are no byte of a page of a heap of so many pages.
func far(pages int) []int {
	end := (pages + 1) * api.PageSize
	return []int{math.MinInt, math.MinInt + 1, math.MinInt + 256, math.MinInt32, -end, -257, -256, -255, -8, -1,
		0, 1, 8, 128, 247, 248, 249, 255, end, end + 1, end + 8, end + 256, api.MaxArena, math.MaxInt32, 1 << 32, 1<<32 + 256, math.MaxInt - 256, math.MaxInt - 8, math.MaxInt - 7, math.MaxInt - 1, math.MaxInt}
}

func filled(n int, with byte) []byte { return bytes.Repeat([]byte{with}, n) }

// The chapter's first example.
func TestFirstExample(t *testing.T) {
	h := build(t, 4)
	wantAlloc(t, h, 10, 1, 256, api.OK)
	wantAlloc(t, h, 16, 1, 272, api.OK)
	wantAlloc(t, h, 300, 2, 512, api.OK)
	wantAlloc(t, h, 8, 3, 1024, api.OK)
	wantAlloc(t, h, 8, 0, 1032, api.OK)
	wantAlloc(t, h, 24, 0, 0, api.ErrFull)
	wantAlloc(t, h, 5, 0, 1040, api.OK)
	wantBase(t, h, 260, 256, api.OK)
	wantBase(t, h, 266, 0, api.ErrNone)
	wantBase(t, h, 272, 272, api.OK)
	wantFree(t, h, 512, api.OK)
	wantHoles(t, h, hole(1, 2))
	wantFits(t, h, 600, false)
	wantFits(t, h, 512, true)
}

// The chapter's second example.
func TestSecondExample(t *testing.T) {
	h := build(t, 4)
	wantAlloc(t, h, 10, 1, 256, api.OK)
	wantStore(t, h, 256, 7, api.OK)
	wantStore(t, h, 264, 7, api.ErrRange)
	wantRead(t, h, 264, 2, []byte{0, 0}, api.OK)
	wantRead(t, h, 266, 0, nil, api.ErrRange)
	wantLoad(t, h, 256, 7, api.OK)
}

// P6.1
func TestNew(t *testing.T) {
	for _, pages := range []int{1, 2, 3, 8, 255, 256, api.MaxPages - 1, api.MaxPages} {
		h := build(t, pages)
		wantObjects(t, h)
		wantSpans(t, h)
		wantHoles(t, h, hole(0, pages))
		wantBase(t, h, 256, 0, api.ErrNone)
		wantRead(t, h, 256, 0, nil, api.ErrRange)
	}
	for _, pages := range []int{math.MinInt, math.MinInt32, -api.MaxPages, -2, -1, api.MaxPages + 1, 2 * api.MaxPages, api.MaxArena, math.MaxInt32, 1 << 32, math.MaxInt} {
		if h, e := heap.New(pages); h != nil || e != api.ErrArg {
			t.Errorf("New(%d) = %v, %d, want nil, ErrArg", pages, h, e)
		}
	}
}

// P6.1: without pages nothing fits and nothing is found, but the object is there. So is the zero value.
func TestNoPages(t *testing.T) {
	none := build(t, 0)
	for _, h := range []*heap.Heap{none, {}} {
		for _, size := range []int{1, 8, 128, 129, 256, api.MaxObject} {
			wantAlloc(t, h, size, 0, 0, api.ErrFull)
			wantFits(t, h, size, false)
		}
		wantAlloc(t, h, 0, 0, 0, api.ErrArg)
		wantNothingAt(t, h, append(far(0), far(1)...)...)
		wantObjects(t, h)
		wantSpans(t, h)
		wantHoles(t, h)
	}
}

// wantNothingAt asks every call for addresses that are in no object.
func wantNothingAt(t *testing.T, h *heap.Heap, addrs ...int) {
	t.Helper()
	for _, addr := range addrs {
		wantFree(t, h, addr, api.ErrNone)
		wantBase(t, h, addr, 0, api.ErrNone)
		wantInfo(t, h, addr, api.Object{}, api.ErrNone)
		wantLoad(t, h, addr, 0, api.ErrRange)
		wantStore(t, h, addr, 1, api.ErrRange)
		wantRead(t, h, addr, -1, nil, api.ErrArg)
		for _, n := range []int{0, 1, 8, 256, math.MaxInt - 256, math.MaxInt} {
			wantRead(t, h, addr, n, nil, api.ErrRange)
		}
		wantWrite(t, h, addr, nil, api.ErrRange)
		wantWrite(t, h, addr, []byte{}, api.ErrRange)
		wantWrite(t, h, addr, filled(8, 1), api.ErrRange)
	}
}

// P6.1, P6.2: a heap of one page, and one of MaxPages, are used up to their last slot.
func TestOnePageAndMaxPages(t *testing.T) {
	for _, pages := range []int{1, api.MaxPages} {
		h := build(t, pages)
		for page := range pages {
			for i := range 2 {
				wantFits(t, h, 128, true)
				wantAlloc(t, h, 128, i, (page+1)*256+i*128, api.OK)
			}
			wantFits(t, h, 8, page+1 < pages)
		}
		wantAlloc(t, h, 128, 0, 0, api.ErrFull)
		wantHoles(t, h)
		last := pages*256 + 128
		wantStore(t, h, last+120, 1<<63, api.OK)
		wantLoad(t, h, last+120, 1<<63, api.OK)
		wantNothingAt(t, h, far(pages)...)
		wantFree(t, h, last, api.OK)
		wantAlloc(t, h, 97, 0, last, api.OK)
	}
}

// P6.2, P6.7: at its edges, each class's slots stand one behind the other from the page's beginning on.
func TestClassSpans(t *testing.T) {
	least := 1
	for _, slot := range []int{8, 16, 24, 32, 48, 64, 96, 128} {
		for _, size := range []int{least, slot} {
			h := build(t, 3)
			slots := 256 / slot
			var objects []api.Object
			for i := range slots {
				wantAlloc(t, h, size, i, 256+i*slot, api.OK)
				objects = append(objects, object(256+i*slot, size, i))
				wantSpans(t, h, span(0, 1, slot, slots, i+1))
			}
			wantAlloc(t, h, size, maxTag, 512, api.OK)
			wantObjects(t, h, append(objects, object(512, size, maxTag))...)
			wantSpans(t, h, span(0, 1, slot, slots, slots), span(1, 1, slot, slots, 1))
			wantHoles(t, h, hole(2, 1))
			// What is left over behind the last slot is no byte of an object.
			for addr := 256 + slots*slot; addr < 512; addr++ {
				wantBase(t, h, addr, 0, api.ErrNone)
			}
		}
		least = slot + 1
	}
}

// P6.2, P6.7: what has no class has as many pages of its own as it needs.
func TestLargeSpans(t *testing.T) {
	for _, c := range []struct{ size, pages int }{{129, 1}, {255, 1}, {256, 1}, {257, 2}, {512, 2}, {513, 3}, {api.MaxObject - 256, 255}, {api.MaxObject - 255, 256}, {api.MaxObject, 256}} {
		h := build(t, 2*c.pages)
		for i := range 2 {
			wantFits(t, h, c.size, true)
			wantAlloc(t, h, c.size, i, 256+i*c.pages*256, api.OK)
		}
		wantFits(t, h, c.size, false)
		wantAlloc(t, h, c.size, 0, 0, api.ErrFull)
		wantAlloc(t, h, 1, 0, 0, api.ErrFull)
		first, second := object(256, c.size, 0), object(256+c.pages*256, c.size, 1)
		wantObjects(t, h, first, second)
		wantSpans(t, h, span(0, c.pages, c.pages*256, 1, 1), span(c.pages, c.pages, c.pages*256, 1, 1))
		wantHoles(t, h)
		wantBase(t, h, 256+c.size-1, 256, api.OK)
		wantBase(t, h, second.Addr+c.size-1, second.Addr, api.OK)
		if c.size%256 != 0 {
			wantNothingAt(t, h, 256+c.size, second.Addr-1, second.Addr+c.size)
		}
		wantFree(t, h, 256, api.OK)
		wantHoles(t, h, hole(0, c.pages))
	}
}

// P6.2, P6.6, R2, R3
func TestAllocWrong(t *testing.T) {
	full, free := made(t, 1, 256), made(t, 300, 10)
	for _, h := range []*heap.Heap{full, free} {
		was := tell(h)
		for _, size := range []int{math.MinInt, math.MinInt32, -256, -8, -1, 0, api.MaxObject + 1, api.MaxArena, math.MaxInt32, 1 << 32, 1<<32 + 8, math.MaxInt - 255, math.MaxInt} {
			for _, tag := range []int{-1, 0, 1, maxTag, maxTag + 1} {
				wantAlloc(t, h, size, tag, 0, api.ErrArg)
			}
			wantFits(t, h, size, false)
		}
		for _, tag := range []int{math.MinInt, math.MinInt32, -2, -1, maxTag + 1, 1 << 32, math.MaxInt} {
			for _, size := range []int{1, 8, 128, 129, api.MaxObject, api.MaxObject + 1} {
				wantAlloc(t, h, size, tag, 0, api.ErrArg)
			}
		}
		wantTold(t, "behind wrong Allocs", h, was)
	}
	was := tell(full)
	wantAlloc(t, full, 8, maxTag, 0, api.ErrFull)
	wantAlloc(t, full, api.MaxObject, 0, 0, api.ErrFull)
	wantTold(t, "behind Allocs that did not fit", full, was)
	wantAlloc(t, free, 10, maxTag, 272, api.OK)
	wantAlloc(t, free, api.MaxObject, 0, 512, api.OK)
	wantInfo(t, free, 272, object(272, 10, maxTag), api.OK)
	wantInfo(t, free, 512, object(512, api.MaxObject, 0), api.OK)
}

// P6.2: of the spans of the class the lowest that has a free slot counts, of its slots the lowest free one, whatever was freed last.
func TestLowestSlotOfLowestSpan(t *testing.T) {
	h := build(t, 5)
	for i := range 8 {
		wantAlloc(t, h, 64, i, 256+i*64, api.OK)
	}
	wantAlloc(t, h, 96, 0, 768, api.OK)
	for i := range 4 {
		wantAlloc(t, h, 64, i, 1024+i*64, api.OK)
	}
	for _, addr := range []int{384, 448, 320, 576, 512, 1024} {
		wantFree(t, h, addr, api.OK)
	}
	wantAlloc(t, h, 96, 0, 864, api.OK)
	for _, addr := range []int{320, 384, 448, 512, 576, 1024, 1280} {
		wantFits(t, h, 64, true)
		wantAlloc(t, h, 50, 1, addr, api.OK)
	}
	wantAlloc(t, h, 96, 0, 0, api.ErrFull)
}

// P6.2: a free slot of another class, be it greater, is not taken, and neither is a lower hole while a span has a slot.
func TestOnlyTheClassCounts(t *testing.T) {
	h := made(t, 4, 8, 16, 24)
	wantAlloc(t, h, 32, 0, 1024, api.OK)
	wantAlloc(t, h, 48, 0, 0, api.ErrFull)
	for _, size := range []int{33, 48, 64, 96, 128, 129, 256} {
		wantFits(t, h, size, false)
	}
	for _, size := range []int{1, 8, 9, 16, 17, 24, 25, 32} {
		wantFits(t, h, size, true)
	}
	wantFree(t, h, 256, api.OK)
	wantAlloc(t, h, 20, 0, 768+24, api.OK)
	wantHoles(t, h, hole(0, 1))
	wantAlloc(t, h, 7, 0, 256, api.OK)
}

// P6.2: new spans are at the page that chapter 4 gives: the least from which on enough pages are free.
func TestNewSpanIsLowest(t *testing.T) {
	h := made(t, 8, 256, 512, 256, 700)
	wantHoles(t, h, hole(7, 1))
	wantFree(t, h, 256, api.OK)
	wantFree(t, h, 1024, api.OK)
	wantHoles(t, h, hole(0, 1), hole(3, 1), hole(7, 1))
	wantFits(t, h, 257, false)
	wantAlloc(t, h, 257, 0, 0, api.ErrFull)
	wantAlloc(t, h, 64, 0, 256, api.OK)
	wantAlloc(t, h, 200, 0, 1024, api.OK)
	wantFree(t, h, 512, api.OK)
	wantFits(t, h, 512, true)
	wantFits(t, h, 513, false)
	wantAlloc(t, h, 300, 0, 512, api.OK)
	wantSpans(t, h, span(0, 1, 64, 4, 1), span(1, 2, 512, 1, 1), span(3, 1, 256, 1, 1), span(4, 3, 768, 1, 1))
}

// P6.2: all bytes of the slot are 0, whatever an earlier object left there and whichever size that one had.
func TestSlotsAreCleared(t *testing.T) {
	for _, c := range []struct{ first, second, third int }{{8, 1, 8}, {24, 17, 24}, {128, 97, 128}, {256, 129, 256}, {512, 257, 500}} {
		h := build(t, 4)
		wantAlloc(t, h, c.first, 0, 256, api.OK)
		wantWrite(t, h, 256, filled(c.first, 0xa5), api.OK)
		wantFree(t, h, 256, api.OK)
		wantAlloc(t, h, c.second, 0, 256, api.OK)
		wantRead(t, h, 256, c.second, filled(c.second, 0), api.OK)
		wantFree(t, h, 256, api.OK)
		wantAlloc(t, h, c.third, 0, 256, api.OK)
		wantRead(t, h, 256, c.third, filled(c.third, 0), api.OK)
	}
}

// P6.2: the rest of the slot, behind the object's size, is 0 too. It is asked of the arena that the heap embeds, since no call of the heap's own goes there.
func TestRestOfSlotIsCleared(t *testing.T) {
	for _, c := range []struct{ first, second, room int }{{8, 1, 8}, {24, 17, 24}, {128, 97, 128}, {256, 129, 256}, {512, 257, 512}} {
		h := build(t, 4)
		wantAlloc(t, h, c.first, 0, 256, api.OK)
		wantWrite(t, h, 256, filled(c.first, 0xa5), api.OK)
		wantFree(t, h, 256, api.OK)
		wantAlloc(t, h, c.second, 0, 256, api.OK)
		if b, e := h.Bytes(256, c.room); !bytes.Equal(b, filled(c.room, 0)) || e != api.OK {
			t.Errorf("the slot of an object of %d bytes: % x, %d", c.second, b, e)
		}
	}
}

// P6.2: the same within a span that lives on, and where its page gets slots of another size; nothing beside the slot is cleared.
func TestOnlyTheSlotIsCleared(t *testing.T) {
	h := made(t, 2, 16, 16, 16)
	for i := range 3 {
		wantWrite(t, h, 256+16*i, filled(16, byte(i+1)), api.OK)
	}
	wantFree(t, h, 272, api.OK)
	wantAlloc(t, h, 10, 9, 272, api.OK)
	wantRead(t, h, 272, 10, filled(10, 0), api.OK)
	wantRead(t, h, 256, 16, filled(16, 1), api.OK)
	wantRead(t, h, 288, 16, filled(16, 3), api.OK)
	for _, addr := range []int{256, 272, 288} {
		wantFree(t, h, addr, api.OK)
	}
	wantAlloc(t, h, 64, 0, 256, api.OK)
	wantRead(t, h, 256, 64, filled(64, 0), api.OK)
}

// P6.3, R3: only where an object begins, and once.
func TestFree(t *testing.T) {
	h := made(t, 6, 10, 16, 300, 24)
	was := tell(h)
	for addr := 0; addr <= 7*256; addr++ {
		if !slices.Contains([]int{256, 272, 512, 1024}, addr) {
			wantFree(t, h, addr, api.ErrNone)
		}
	}
	for _, addr := range far(6) {
		wantFree(t, h, addr, api.ErrNone)
	}
	wantTold(t, "behind wrong Frees", h, was)
	wantFree(t, h, 256, api.OK)
	wantFree(t, h, 256, api.ErrNone)
	wantNothingAt(t, h, 256, 257, 264, 271)
	wantObjects(t, h, object(272, 16, 2), object(512, 300, 3), object(1024, 24, 4))
	wantSpans(t, h, span(0, 1, 16, 16, 1), span(1, 2, 512, 1, 1), span(3, 1, 24, 10, 1))
	wantHoles(t, h, hole(4, 2))
}

// P6.3: the last object takes its span along, and the free pages join; an object that is left keeps it.
func TestLastOfItsSpan(t *testing.T) {
	h := made(t, 6, 10, 16, 300, 24)
	wantFree(t, h, 512, api.OK)
	wantHoles(t, h, hole(1, 2), hole(4, 2))
	wantFree(t, h, 1024, api.OK)
	wantHoles(t, h, hole(1, 5))
	wantFree(t, h, 272, api.OK)
	wantSpans(t, h, span(0, 1, 16, 16, 1))
	wantHoles(t, h, hole(1, 5))
	wantFree(t, h, 256, api.OK)
	wantHoles(t, h, hole(0, 6))
	wantSpans(t, h)
	wantObjects(t, h)
	wantNothingAt(t, h, 256, 272, 512, 768, 1024)
	wantAlloc(t, h, 6*256, 7, 256, api.OK)
	wantSpans(t, h, span(0, 6, 6*256, 1, 1))
}

// P6.4: the object's size counts, not its slot's, and not what lies behind the slots.
func TestBaseAndInfo(t *testing.T) {
	h := made(t, 6, 10, 16, 300, 24)
	objects := []api.Object{object(256, 10, 1), object(272, 16, 2), object(512, 300, 3), object(1024, 24, 4)}
	for addr := -300; addr <= 7*256+300; addr++ {
		base, want := 0, api.ErrNone
		for _, o := range objects {
			if o.Addr <= addr && addr < o.Addr+o.Size {
				base, want = o.Addr, api.OK
			}
		}
		wantBase(t, h, addr, base, want)
		if i := slices.IndexFunc(objects, func(o api.Object) bool { return o.Addr == addr }); i >= 0 {
			wantInfo(t, h, addr, objects[i], api.OK)
		} else {
			wantInfo(t, h, addr, api.Object{}, api.ErrNone)
		}
	}
	wantNothingAt(t, h, far(6)...)
}

// P6.4: tags at their ends.
func TestTags(t *testing.T) {
	h := build(t, 2)
	for i, tag := range []int{0, 1, maxTag - 1, maxTag} {
		wantAlloc(t, h, 8, tag, 256+8*i, api.OK)
		wantInfo(t, h, 256+8*i, object(256+8*i, 8, tag), api.OK)
	}
}

// P6.5: words at any place of an object, the lowest byte first; one more is behind its size, be it in its slot, in the next object or in none.
func TestLoadAndStore(t *testing.T) {
	h := made(t, 4, 16, 16, 10, 300, 8, 5)
	for i := range 9 {
		wantStore(t, h, 256+i, 0x0807060504030201, api.OK)
		wantLoad(t, h, 256+i, 0x0807060504030201, api.OK)
		wantRead(t, h, 256+i, 8, []byte{1, 2, 3, 4, 5, 6, 7, 8}, api.OK)
	}
	wantRead(t, h, 256, 16, []byte{1, 1, 1, 1, 1, 1, 1, 1, 1, 2, 3, 4, 5, 6, 7, 8}, api.OK)
	wantRead(t, h, 272, 16, filled(16, 0), api.OK)
	was := tell(h)
	// From object to object, from an object of ten bytes into the rest of its slot and behind it, off a large one's end, and an object less than a word.
	for _, addr := range []int{265, 268, 271, 281, 291, 292, 297, 298, 303, 512 + 293, 512 + 299, 512 + 300, 1023, 1017, 1025, 1031, 1032, 1033, 1036, 1037, 1280} {
		wantLoad(t, h, addr, 0, api.ErrRange)
		wantStore(t, h, addr, math.MaxUint64, api.ErrRange)
	}
	wantTold(t, "behind wrong Stores", h, was)
	for _, addr := range []int{264, 272, 280, 288, 290, 512, 512 + 249, 512 + 256, 512 + 292, 1024} {
		wantStore(t, h, addr, math.MaxUint64, api.OK)
		wantLoad(t, h, addr, math.MaxUint64, api.OK)
	}
}

// P6.5: every place and length around objects of all kinds.
func TestReadAndWrite(t *testing.T) {
	sizes := []int{16, 10, 24, 300, 1}
	was := tell(made(t, 5, sizes...))
	end := 6*256 + 2
	for at := 254; at < end; at++ {
		for _, n := range []int{0, 1, 2, 7, 8, 9, 10, 11, 15, 16, 17, 24, 299, 300, 301} {
			h := made(t, 5, sizes...)
			base, e := h.Base(at)
			o, _ := h.Info(base)
			if e != api.OK || at+n > base+o.Size {
				wantRead(t, h, at, n, nil, api.ErrRange)
				wantWrite(t, h, at, filled(n, 9), api.ErrRange)
				wantTold(t, "behind a wrong Write", h, was)
				continue
			}
			wantRead(t, h, at, n, filled(n, 0), api.OK)
			wantWrite(t, h, at, filled(n, 9), api.OK)
			wantRead(t, h, at, n, filled(n, 9), api.OK)
			whole := filled(o.Size, 0)
			copy(whole[at-base:], filled(n, 9))
			wantRead(t, h, base, o.Size, whole, api.OK)
		}
		if t.Failed() {
			t.Fatalf("at %d", at)
		}
	}
}

// P6.5: none of no bytes is as far as the byte at addr goes, and ErrArg stands before ErrRange.
func TestNoBytesAndWrongLengths(t *testing.T) {
	h := made(t, 3, 10, 16, 256)
	for _, addr := range []int{256, 265, 272, 287, 512, 767} {
		wantRead(t, h, addr, 0, nil, api.OK)
		wantWrite(t, h, addr, nil, api.OK)
		wantWrite(t, h, addr, []byte{}, api.OK)
	}
	for _, addr := range []int{255, 266, 271, 288, 511, 768, 1023, 1024} {
		wantRead(t, h, addr, 0, nil, api.ErrRange)
		wantWrite(t, h, addr, nil, api.ErrRange)
		wantWrite(t, h, addr, []byte{}, api.ErrRange)
	}
	for _, addr := range append(far(3), 256, 265, 266, 512, 768) {
		for _, n := range []int{math.MinInt, math.MinInt + 256, math.MinInt32, -256, -8, -1} {
			wantRead(t, h, addr, n, nil, api.ErrArg)
		}
	}
	for _, n := range []int{11, 256, 512, api.MaxArena, math.MaxInt32, 1 << 32, math.MaxInt - 256, math.MaxInt - 255, math.MaxInt} {
		wantRead(t, h, 256, n, nil, api.ErrRange)
		wantRead(t, h, 265, n, nil, api.ErrRange)
	}
}

// P6.6: as Alloc of tag 0 would answer, at every size, and nothing changes.
func TestFits(t *testing.T) {
	for _, h := range []*heap.Heap{build(t, 0), build(t, 1), build(t, 3), build(t, 256), build(t, api.MaxPages), made(t, 3, 64, 300), made(t, 3, 64, 64, 64, 64, 300)} {
		was := tell(h)
		for _, size := range []int{-1, 0, 1, 8, 9, 16, 17, 24, 25, 32, 33, 48, 49, 64, 65, 96, 97, 128, 129, 256, 257, 512, 513, 768, 769, api.MaxObject - 256, api.MaxObject - 1, api.MaxObject, api.MaxObject + 1} {
			got := h.Fits(size)
			wantTold(t, "behind Fits", h, was)
			addr, e := h.Alloc(size, 0)
			if got != (e == api.OK) {
				t.Errorf("Fits(%d) = %v, but Alloc answers %d", size, got, e)
			}
			if e == api.OK {
				wantFree(t, h, addr, api.OK)
			}
		}
	}
}

// P6.6: a size fits where a slot is free, though no page is.
func TestFitsInASlot(t *testing.T) {
	h := made(t, 1, 96)
	wantFits(t, h, 65, true)
	wantFits(t, h, 96, true)
	wantFits(t, h, 64, false)
	wantFits(t, h, 97, false)
	wantAlloc(t, h, 65, 0, 352, api.OK)
	wantFits(t, h, 65, false)
	wantFree(t, h, 256, api.OK)
	wantFits(t, h, 65, true)
	wantFits(t, h, 256, false)
	wantFree(t, h, 352, api.OK)
	wantFits(t, h, 256, true)
	wantFits(t, h, 257, false)
}

// R6: iterators tell what there was at their call, again and again, and are left at once.
func TestIterators(t *testing.T) {
	h := made(t, 6, 10, 300, 16, 24)
	objects, spans, holes := h.Objects(), h.Spans(), h.Holes()
	wantObject := []api.Object{object(256, 10, 1), object(272, 16, 3), object(512, 300, 2), object(1024, 24, 4)}
	wantSpan := []api.Span{span(0, 1, 16, 16, 2), span(1, 2, 512, 1, 1), span(3, 1, 24, 10, 1)}
	wantHole := []api.Run{hole(4, 2)}
	check := func(what string) {
		t.Helper()
		for range 2 {
			if got := slices.Collect(objects); !slices.EqualFunc(got, wantObject, sameObject) {
				t.Errorf("%s: objects %v", what, got)
			}
			if got := slices.Collect(spans); !slices.Equal(got, wantSpan) {
				t.Errorf("%s: spans %v", what, got)
			}
			if got := slices.Collect(holes); !slices.Equal(got, wantHole) {
				t.Errorf("%s: holes %v", what, got)
			}
		}
	}
	check("at once")
	wantFree(t, h, 512, api.OK)
	wantFree(t, h, 256, api.OK)
	wantAlloc(t, h, 20, 9, 1048, api.OK)
	wantAlloc(t, h, 700, 9, 0, api.ErrFull)
	wantAlloc(t, h, 200, 9, 512, api.OK)
	check("behind calls")
	for o := range objects {
		wantFree(t, h, o.Addr, map[int]api.Errno{256: api.ErrNone, 272: api.OK, 512: api.OK, 1024: api.OK}[o.Addr])
	}
	check("behind a loop that frees")
	wantObjects(t, h, object(1048, 20, 9))
}

// R6: a loop that is left gets nothing more.
func TestIteratorsAreLeft(t *testing.T) {
	h := made(t, 6, 10, 300, 16, 24)
	wantFree(t, h, 512, api.OK)
	objects, spans, holes := 0, 0, 0
	for range h.Objects() {
		objects++
		if objects == 2 {
			break
		}
	}
	for range h.Spans() {
		spans++
		break
	}
	for range h.Holes() {
		holes++
		break
	}
	if objects != 2 || spans != 1 || holes != 1 {
		t.Errorf("left behind %d objects, %d spans, %d holes", objects, spans, holes)
	}
}

// R4: what is read is a copy, spare room included, and what is written is copied.
func TestSharesNothing(t *testing.T) {
	h := made(t, 2, 16, 16)
	room := filled(32, 5)
	wantWrite(t, h, 256, room[:16], api.OK)
	clear(room)
	wantRead(t, h, 256, 16, filled(16, 5), api.OK)
	wantRead(t, h, 272, 16, filled(16, 0), api.OK)
	first, _ := h.Read(256, 8)
	second, _ := h.Read(256, 8)
	spare := first[:cap(first)]
	for i := range spare {
		spare[i] = 9
	}
	if !bytes.Equal(second, filled(8, 5)) {
		t.Errorf("two Reads share: % x", second)
	}
	wantRead(t, h, 256, 16, filled(16, 5), api.OK)
	wantRead(t, h, 272, 16, filled(16, 0), api.OK)
	full := filled(24, 7)
	wantWrite(t, h, 256, full[:8], api.OK)
	if !bytes.Equal(full, filled(24, 7)) {
		t.Errorf("Write has changed what it was given: % x", full)
	}
}

// R5: heaps are apart.
func TestHeapsAreApart(t *testing.T) {
	a, b := build(t, 2), build(t, 2)
	wantAlloc(t, a, 16, 1, 256, api.OK)
	wantStore(t, a, 256, 7, api.OK)
	wantObjects(t, b)
	wantLoad(t, b, 256, 0, api.ErrRange)
	wantAlloc(t, b, 16, 2, 256, api.OK)
	wantLoad(t, b, 256, 0, api.OK)
	wantStore(t, b, 256, 8, api.OK)
	wantLoad(t, a, 256, 7, api.OK)
	wantFree(t, b, 256, api.OK)
	wantInfo(t, a, 256, object(256, 16, 1), api.OK)
}

// P6.8, R5
func TestNilHeap(t *testing.T) {
	var h *heap.Heap
	for _, n := range []int{math.MinInt, -1, 0, 1, 8, 256, 512, math.MaxInt} {
		wantAlloc(t, h, n, 0, 0, api.ErrArg)
		wantAlloc(t, h, 8, n, 0, api.ErrArg)
		wantFree(t, h, n, api.ErrArg)
		wantBase(t, h, n, 0, api.ErrArg)
		wantInfo(t, h, n, api.Object{}, api.ErrArg)
		wantLoad(t, h, n, 0, api.ErrArg)
		wantStore(t, h, n, 1, api.ErrArg)
		wantRead(t, h, n, 0, nil, api.ErrArg)
		wantRead(t, h, 256, n, nil, api.ErrArg)
		wantWrite(t, h, n, nil, api.ErrArg)
		wantWrite(t, h, n, []byte{1}, api.ErrArg)
		wantFits(t, h, n, false)
	}
	if h.Objects() == nil || h.Spans() == nil || h.Holes() == nil {
		t.Error("an iterator is nil")
	}
	wantObjects(t, h)
	wantSpans(t, h)
	wantHoles(t, h)
}
