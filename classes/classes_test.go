package classes_test

import (
	"math"
	"testing"

	"heddle/api"
	"heddle/classes"
)

// A call of the package: all of them take a number and answer one.
type call func(int) (int, api.Errno)

func want(t *testing.T, name string, f call, arg, answer int, errno api.Errno) {
	t.Helper()
	if got, e := f(arg); got != answer || e != errno {
		t.Errorf("%s(%d) = %d, %d, want %d, %d", name, arg, got, e, answer, errno)
	}
}

func wantClass(t *testing.T, size, class int, e api.Errno) {
	t.Helper()
	want(t, "Class", classes.Class, size, class, e)
}

func wantSlot(t *testing.T, class, slot int, e api.Errno) {
	t.Helper()
	want(t, "Slot", classes.Slot, class, slot, e)
}

func wantSlots(t *testing.T, class, slots int, e api.Errno) {
	t.Helper()
	want(t, "Slots", classes.Slots, class, slots, e)
}

func wantPages(t *testing.T, size, pages int, e api.Errno) {
	t.Helper()
	want(t, "Pages", classes.Pages, size, pages, e)
}

func wantRoom(t *testing.T, size, room int, e api.Errno) {
	t.Helper()
	want(t, "Room", classes.Room, size, room, e)
}

// The chapter's example.
func TestExample(t *testing.T) {
	wantClass(t, 1, 0, api.OK)
	wantClass(t, 8, 0, api.OK)
	wantClass(t, 9, 1, api.OK)
	wantClass(t, 33, 4, api.OK)
	wantClass(t, 128, 7, api.OK)
	wantClass(t, 129, 0, api.ErrLarge)
	wantClass(t, 0, 0, api.ErrArg)
	for class, slots := range []int{32, 16, 10, 8, 5, 4, 2, 2} {
		wantSlots(t, class, slots, api.OK)
	}
	wantPages(t, 256, 1, api.OK)
	wantPages(t, 257, 2, api.OK)
	wantRoom(t, 20, 24, api.OK)
	wantRoom(t, 300, 512, api.OK)
}

// P5.1, P5.3: the sizes at which each class begins and ends. Beyond the last there is none.
func TestEdgesOfClasses(t *testing.T) {
	for _, c := range []struct{ class, least, slot int }{
		{0, 1, 8}, {1, 9, 16}, {2, 17, 24}, {3, 25, 32}, {4, 33, 48}, {5, 49, 64}, {6, 65, 96}, {7, 97, 128},
	} {
		for _, size := range []int{c.least, c.least + 1, c.slot - 1, c.slot} {
			wantClass(t, size, c.class, api.OK)
			wantPages(t, size, 1, api.OK)
			wantRoom(t, size, c.slot, api.OK)
		}
	}
	for _, size := range []int{129, 130, 255, 256} {
		wantClass(t, size, 0, api.ErrLarge)
		wantPages(t, size, 1, api.OK)
		wantRoom(t, size, 256, api.OK)
	}
}

// P5.2
func TestSlots(t *testing.T) {
	for class, c := range []struct{ slot, slots int }{
		{8, 32}, {16, 16}, {24, 10}, {32, 8}, {48, 5}, {64, 4}, {96, 2}, {128, 2},
	} {
		wantSlot(t, class, c.slot, api.OK)
		wantSlots(t, class, c.slots, api.OK)
	}
}

// P5.2, R1, R3
func TestNoClass(t *testing.T) {
	for _, class := range []int{
		math.MinInt, math.MinInt + 1, -1 << 32, math.MinInt32, -256, -255, -8, -7, -2, -1,
		8, 9, 15, 16, 128, 255, 256, 257, math.MaxInt32, 1 << 32, 1<<32 + 1, 1 << 61, math.MaxInt - 1, math.MaxInt,
	} {
		wantSlot(t, class, 0, api.ErrArg)
		wantSlots(t, class, 0, api.ErrArg)
	}
}

// P5.1, P5.3: whole pages, and a byte more and less.
func TestLarge(t *testing.T) {
	for _, c := range []struct{ size, pages, room int }{
		{257, 2, 512}, {511, 2, 512}, {512, 2, 512},
		{513, 3, 768}, {768, 3, 768}, {769, 4, 1024},
		{32767, 128, 32768}, {32768, 128, 32768}, {32769, 129, 33024},
		{65280, 255, 65280}, {65281, 256, 65536}, {65535, 256, 65536}, {65536, 256, 65536},
	} {
		wantClass(t, c.size, 0, api.ErrLarge)
		wantPages(t, c.size, c.pages, api.OK)
		wantRoom(t, c.size, c.room, api.OK)
	}
}

// P5.1, P5.3, R1 to R3: what is above MaxObject is not large, but wrong, as ErrArg stands ahead of ErrLarge.
func TestWrongSizes(t *testing.T) {
	for _, size := range []int{
		math.MinInt, math.MinInt + 1, -1 << 32, math.MinInt32, -api.MaxObject - 1, -api.MaxObject, -257, -256, -255, -128, -8, -7, -2, -1, 0,
		api.MaxObject + 1, api.MaxObject + 255, api.MaxObject + 256, 2 * api.MaxObject, api.MaxArena, math.MaxInt32, 1 << 32, 1<<32 + 8, 1<<32 + 300,
		math.MaxInt - 256, math.MaxInt - 255, math.MaxInt - 1, math.MaxInt,
	} {
		wantClass(t, size, 0, api.ErrArg)
		wantPages(t, size, 0, api.ErrArg)
		wantRoom(t, size, 0, api.ErrArg)
	}
}

// P5.1 to P5.3, each size asked of the words themselves: the least class that holds it, the least pages that do, and the room that these give.
func TestEverySize(t *testing.T) {
	for size := 1; size <= api.MaxObject; size++ {
		if size > 128 {
			wantClass(t, size, 0, api.ErrLarge)
			wantLeastPages(t, size)
		} else {
			wantLeastClass(t, size)
		}
	}
}

func wantLeastClass(t *testing.T, size int) {
	t.Helper()
	class, e := classes.Class(size)
	slot, e2 := classes.Slot(class)
	if e != api.OK || e2 != api.OK || slot < size {
		t.Fatalf("Class(%d) = %d, %d, with slots of %d bytes, %d", size, class, e, slot, e2)
	}
	if less, e := classes.Slot(class - 1); e == api.OK && less >= size {
		t.Errorf("Class(%d) = %d, but class %d has slots of %d bytes", size, class, class-1, less)
	}
	wantPages(t, size, 1, api.OK)
	wantRoom(t, size, slot, api.OK)
}

func wantLeastPages(t *testing.T, size int) {
	t.Helper()
	pages, e := classes.Pages(size)
	if e != api.OK || pages*api.PageSize < size || (pages-1)*api.PageSize >= size {
		t.Fatalf("Pages(%d) = %d, %d", size, pages, e)
	}
	wantRoom(t, size, pages*api.PageSize, api.OK)
}

// P5.2: the slots lie in their page, and no further one would.
func TestSlotsFillThePage(t *testing.T) {
	for class := range 8 {
		slot, e := classes.Slot(class)
		n, e2 := classes.Slots(class)
		if e != api.OK || e2 != api.OK || n*slot > api.PageSize || (n+1)*slot <= api.PageSize {
			t.Errorf("class %d: %d slots, %d, of %d bytes, %d", class, n, e2, slot, e)
		}
	}
}
