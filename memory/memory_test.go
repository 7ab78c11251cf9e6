package memory_test

import (
	"math"
	"reflect"
	"slices"
	"testing"

	"heddle/api"
	"heddle/heap"
	"heddle/memory"
)

// The chapter's first example.
func TestFirstExample(t *testing.T) {
	m := build(t, 1, 100)
	wantAlloc(t, m, shape("p"), 5, nil, 256, api.OK)
	wantAlloc(t, m, shape("p"), 5, list(256), 264, api.OK)
	wantSet(t, m, 256, 0, 264, api.OK)
	wantSet(t, m, 256, 0, 265, api.ErrNone)
	wantInfo(t, m, 256, object(256, 8, 5, 264), api.OK)
	wantCollect(t, m, list(264), api.OK)
	wantGet(t, m, 256, 0, 0, api.ErrNone)
	wantView(t, m, nil, api.View{Objects: []api.Object{object(264, 8, 5)}, Cycles: 1}, api.OK)
}

// The chapter's second example.
func TestSecondExample(t *testing.T) {
	m := build(t, 1, never)
	for i := range 32 {
		wantAlloc(t, m, shape("-"), 1, nil, 256+8*i, api.OK)
	}
	wantFits(t, m, 1, false)
	wantAlloc(t, m, shape("-"), 2, nil, 256, api.OK)
	wantPhase(t, m, api.Idle, 1)
	wantView(t, m, nil, api.View{Objects: []api.Object{object(256, 8, 2)}, Cycles: 1}, api.OK)
}

// P9.1: a new memory has nothing. So has the zero value, of no page.
func TestNew(t *testing.T) {
	for _, pages := range []int{0, 1, 2, 255, 256, api.MaxPages - 1, api.MaxPages} {
		for _, pace := range []int{math.MinInt, -1, 0, 1, 2, never} {
			m := build(t, pages, pace)
			if pages == 0 && pace == 1 {
				m = &memory.Memory{}
			}
			var free []api.Run
			if pages > 0 {
				free = []api.Run{{Start: 0, Len: pages}}
			}
			wantView(t, m, nil, api.View{Free: free}, api.OK)
			wantWork(t, m, 5, 5)
			for _, addr := range []int{math.MinInt, -1, 0, 1, 255, 256, 264, 512, math.MaxInt} {
				wantGet(t, m, addr, 0, 0, api.ErrNone)
				wantSet(t, m, addr, 0, 0, api.ErrNone)
				wantPtrs(t, m, addr, nil, api.ErrNone)
				wantInfo(t, m, addr, api.Object{}, api.ErrNone)
			}
			wantFits(t, m, 1, pages > 0)
			wantPhase(t, m, api.Idle, 0)
			if pages > 0 {
				wantAlloc(t, m, shape("-"), 0, nil, 256, api.OK)
				wantPhase(t, m, api.Idle, 0)
			}
		}
	}
}

// P9.1: pages that heap.New does not take.
func TestNewOfWrongPages(t *testing.T) {
	for _, pages := range []int{math.MinInt, math.MinInt + 1, math.MinInt32, -api.MaxPages, -2, -1,
		api.MaxPages + 1, 2 * api.MaxPages, math.MaxInt32, 1 << 32, 1<<32 + 1, math.MaxInt - 1, math.MaxInt} {
		for _, pace := range []int{math.MinInt, -1, 0, 1, never} {
			if m, e := memory.New(pages, pace); m != nil || e != api.ErrArg {
				t.Errorf("New(%d, %d) = %v, %d", pages, pace, m, e)
			}
		}
		if _, e := heap.New(pages); e != api.ErrArg {
			t.Errorf("heap.New(%d): %d", pages, e)
		}
	}
}

// P9.2, P9.5: without a page nothing fits, though each Alloc carries out a cycle.
func TestNoPages(t *testing.T) {
	for _, m := range []*memory.Memory{build(t, 0, never), build(t, 0, -5), build(t, 0, 1), {}} {
		for cycles := range 3 {
			wantAlloc(t, m, shape("p"), 0, list(0, 0), 0, api.ErrFull)
			wantPhase(t, m, api.Idle, cycles+1)
		}
		wantBegin(t, m, nil, api.OK)
		wantPhase(t, m, api.Mark, 3)
		wantAlloc(t, m, shape("p"), 0, nil, 0, api.ErrFull)
		wantPhase(t, m, api.Idle, 5)
		wantCollect(t, m, list(0), api.OK)
		wantPhase(t, m, api.Idle, 6)
		wantFits(t, m, 1, false)
		wantView(t, m, list(0), api.View{Cycles: 6}, api.OK)
	}
}

// P9.2, P9.3, P9.4: objects from one word to as many as there can be, without pointers, of pointers only, and mixed.
func TestAllocOfAllSizes(t *testing.T) {
	mixed := func(words int) []bool {
		out := plain(words)
		for i := range out {
			out[i] = i%3 == 1
		}
		return out
	}
	for _, n := range []int{1, 2, 3, 4, 5, 6, 8, 12, 16, 17, 32, 33, 1000, most - 1, most} {
		for i, ptrs := range [][]bool{plain(n), pointers(n), mixed(n)} {
			m := build(t, 257, never)
			wantAlloc(t, m, shape("-"), 0, nil, 256, api.OK)
			wantAlloc(t, m, ptrs, i, list(256), 256+max(256*boolean(n > 1), 8), api.OK)
			addr := live(m)[1]
			wantPtrs(t, m, addr, ptrs, api.OK)
			wantInfo(t, m, addr, object(addr, 8*n, i), api.OK)
			wantWords(t, m, addr, make([]uint64, n)...)
			last := uint64(n)
			if ptrs[n-1] {
				last = 256
				wantSet(t, m, addr, n-1, uint64(n), api.ErrNone)
			}
			wantSet(t, m, addr, n-1, last, api.OK)
			wantWords(t, m, addr, append(make([]uint64, n-1), last)...)
			wantSet(t, m, addr, n, 0, api.ErrRange)
		}
	}
}

// P9.2: tags from 0 to the greatest.
func TestAllocOfAllTags(t *testing.T) {
	m := build(t, 1, never)
	for i, tag := range []int{0, 1, 2, 4194304, maxTag - 1, maxTag} {
		wantAlloc(t, m, shape("-"), tag, nil, 256+8*i, api.OK)
		wantInfo(t, m, 256+8*i, object(256+8*i, 8, tag), api.OK)
	}
}

// P9.2, R2, R3: no word, too many, and wrong tags, in each phase; they count ahead of wrong roots, and of what does not fit.
func TestAllocOfWrongObjects(t *testing.T) {
	for _, phase := range phases() {
		m := world(t, phase)
		for _, roots := range [][]int{nil, {0}, {256, 0, 768}, {1}, {256, -1}, {552, 0}} {
			for _, ptrs := range [][]bool{nil, {}, plain(most + 1), pointers(most + 1), plain(2 * most), plain(1 << 20)} {
				wantAlloc(t, m, ptrs, 0, roots, 0, api.ErrArg)
				wantAlloc(t, m, ptrs, -1, roots, 0, api.ErrArg)
			}
			for _, tag := range []int{math.MinInt, math.MinInt + 1, math.MinInt32, -2, -1, maxTag + 1, maxTag + 2, 1 << 32, 1<<32 + 1, math.MaxInt} {
				wantAlloc(t, m, shape("p-"), tag, roots, 0, api.ErrArg)
				wantAlloc(t, m, plain(most), tag, roots, 0, api.ErrArg)
			}
		}
		wantSameFuture(t, m, world(t, phase))
	}
}

// P9.1, P9.2: a Begin comes where Since is at the pace, not one word below, and with the roots of that Alloc; a pace below 1 is 1.
func TestPace(t *testing.T) {
	for _, pace := range []int{math.MinInt, -7, -1, 0, 1, 2, 3, 10, 100} {
		m, count := build(t, 64, pace), max(pace, 1)
		if count > 1 {
			wantAlloc(t, m, plain(count-1), 0, nil, 256, api.OK)
			wantPhase(t, m, api.Idle, 0)
		}
		one, _ := m.Alloc(shape("p"), 0, nil)
		wantPhase(t, m, api.Idle, 0)
		two, _ := m.Alloc(shape("p"), 1, list(0, one))
		wantPhase(t, m, api.Mark, 0)
		wantWork(t, m, 1000, 1000-2-1-len(live(m))-1)
		wantLive(t, m, one, two)
	}
}

// P9.2: an object that comes with a Begin counts behind it; others in the phases Mark and Sweep count too, but begin nothing.
func TestSinceGoesOn(t *testing.T) {
	m := build(t, 64, 10)
	alloc := func(words, phase, cycles int) {
		t.Helper()
		if _, e := m.Alloc(plain(words), 0, nil); e != api.OK {
			t.Errorf("Alloc: %d", e)
		}
		wantPhase(t, m, phase, cycles)
	}
	alloc(9, api.Idle, 0)
	alloc(30, api.Idle, 0) // 9 is below the pace; now it is 39
	alloc(4, api.Mark, 0)  // a Begin, and 4 behind it
	m.Work(100)
	alloc(5, api.Idle, 1) // 9
	alloc(1, api.Idle, 1) // 10
	alloc(1, api.Mark, 1) // a Begin, and 1
	alloc(8, api.Mark, 1) // 9
	toSweep(m)
	alloc(1, api.Sweep, 1) // 10
	alloc(7, api.Sweep, 1)
	m.Work(100)
	wantPhase(t, m, api.Idle, 2)
	alloc(9, api.Mark, 2) // a Begin, and 9
	m.Work(100)
	alloc(1, api.Idle, 3) // 10
	wantBegin(t, m, nil, api.OK)
	m.Work(100)
	alloc(9, api.Idle, 4) // the Begin made it 0
	alloc(1, api.Idle, 4) // 10
	wantCollect(t, m, nil, api.OK)
	alloc(10, api.Idle, 5)
	alloc(1, api.Mark, 5)
	alloc(11, api.Mark, 5)
	wantCollect(t, m, nil, api.OK)
	alloc(9, api.Idle, 7)
	alloc(3, api.Idle, 7) // 12
	wantBegin(t, m, list(1), api.ErrNone)
	alloc(1, api.Mark, 7)
}

// P9.2: what is at the pace begins no cycle where the Alloc is refused.
func TestNoBeginBesideAnError(t *testing.T) {
	m := build(t, 4, 1)
	wantAlloc(t, m, shape("p"), 0, nil, 256, api.OK)
	wantAlloc(t, m, shape("p"), 0, list(264), 0, api.ErrNone)
	wantAlloc(t, m, shape("p"), 0, list(256, 257), 0, api.ErrNone)
	wantAlloc(t, m, nil, 0, nil, 0, api.ErrArg)
	wantAlloc(t, m, shape("p"), -1, list(256), 0, api.ErrArg)
	wantPhase(t, m, api.Idle, 0)
	wantAlloc(t, m, shape("p"), 0, nil, 264, api.OK)
	wantPhase(t, m, api.Mark, 0)
}

// P9.2: in the phase Mark the roots' nodes are shaded, in order, each once, and what they name lives with them; the new object does too.
func TestAllocShadesRoots(t *testing.T) {
	m := build(t, 2, never)
	for i := range 6 {
		wantAlloc(t, m, shape("p"), i, nil, 256+8*i, api.OK)
	}
	wantSet(t, m, 288, 0, 256, api.OK)
	wantBegin(t, m, list(272), api.OK)
	wantAlloc(t, m, shape("pp"), 6, list(288, 0, 264, 272, 288, 264), 512, api.OK)
	wantPhase(t, m, api.Mark, 0)
	wantBlackening(t, m, 2, 4, 1, 0)
	m.Work(100)
	wantLive(t, m, 256, 264, 272, 288, 512)
	wantPhase(t, m, api.Idle, 1)
}

// P9.2: in the other phases nothing is shaded: what was handed to an Alloc ahead of a Begin is not held by it, and no line comes of it.
func TestAllocShadesNothingInOtherPhases(t *testing.T) {
	m := build(t, 2, never)
	wantAlloc(t, m, shape("p"), 0, nil, 256, api.OK)
	wantAlloc(t, m, shape("p"), 0, list(256), 264, api.OK)
	wantBegin(t, m, list(264), api.OK)
	wantBlackening(t, m, 1)
	wantLive(t, m, 264)
	wantAlloc(t, m, shape("p"), 0, list(264), 272, api.OK)
	wantPhase(t, m, api.Sweep, 0)
	wantWork(t, m, 100, 97)
	wantBegin(t, m, nil, api.OK)
	wantBlackening(t, m)
	wantLive(t, m)
}

// P9.2: where there is room at once, no work is done, in any phase, though what is dead would make more.
func TestAllocDoesNoWorkWhereItFits(t *testing.T) {
	for _, phase := range phases() {
		m, plain := world(t, phase), world(t, phase)
		addr, e := m.Alloc(shape("--"), 1, list(768))
		if addr == 0 || e != api.OK {
			t.Errorf("Alloc: %d, %d", addr, e)
		}
		wantPhase(t, m, phase, 1)
		wantWork(t, m, 100, plain.Work(100))
	}
}

// P9.2: a dead object takes its place until it is swept; then its address comes again, for another object all of whose words are 0.
func TestPlacesOfDeadObjects(t *testing.T) {
	m := build(t, 1, never)
	for i := range 8 {
		wantAlloc(t, m, shape("-p--"), i, nil, 256+32*i, api.OK)
		wantSet(t, m, 256+32*i, 0, math.MaxUint64, api.OK)
		wantSet(t, m, 256+32*i, 1, 256, api.OK)
		wantSet(t, m, 256+32*i, 3, 7, api.OK)
	}
	wantBegin(t, m, list(256), api.OK)
	toSweep(m)
	wantLive(t, m, 256)
	wantFits(t, m, 4, false)
	wantView(t, m, nil, api.View{Objects: []api.Object{object(256, 32, 0, 256)}, Phase: api.Sweep}, api.OK)
	wantWork(t, m, 1, 0) // the node of 256
	wantFits(t, m, 4, false)
	for i, s := range []string{"---p", "pp--", "-p--"} {
		addr := 288 + 32*i
		wantGet(t, m, addr, 0, 0, api.ErrNone)
		wantWork(t, m, 1, 0)
		wantFits(t, m, 4, true)
		wantFits(t, m, 1, false)
		wantGet(t, m, addr, 0, 0, api.ErrNone)
		wantAlloc(t, m, shape(s), 20+i, list(256), addr, api.OK)
		wantFits(t, m, 4, false)
		wantWords(t, m, addr, 0, 0, 0, 0)
		wantPtrs(t, m, addr, shape(s), api.OK)
		wantInfo(t, m, addr, object(addr, 32, 20+i), api.OK)
		wantPhase(t, m, api.Sweep, 0)
	}
	wantWork(t, m, 100, 95)
	wantLive(t, m, 256, 288, 320, 352)
}

// P9.2: an address comes again for an object of another size.
func TestAddressesComeAgainForOtherSizes(t *testing.T) {
	m := build(t, 1, never)
	wantAlloc(t, m, shape("pp"), 1, nil, 256, api.OK)
	wantSet(t, m, 256, 0, 256, api.OK)
	wantSet(t, m, 256, 1, 256, api.OK)
	wantCollect(t, m, nil, api.OK)
	wantAlloc(t, m, shape("-p-------------------------------"), 2, nil, 0, api.ErrFull)
	wantAlloc(t, m, plain(32), 2, nil, 256, api.OK)
	wantWords(t, m, 256, make([]uint64, 32)...)
	wantCollect(t, m, nil, api.OK)
	wantAlloc(t, m, shape("-"), 3, nil, 256, api.OK)
	wantPtrs(t, m, 256, shape("-"), api.OK)
	wantInfo(t, m, 256, object(256, 8, 3), api.OK)
	wantWords(t, m, 256, 0)
}

// P9.2: in the phase Idle, what does not fit is asked again behind a whole cycle.
func TestFullInIdle(t *testing.T) {
	m := full(t, never)
	wantAlloc(t, m, pointers(16), 3, list(384), 256, api.OK)
	wantPhase(t, m, api.Idle, 1)
	wantLive(t, m, 256, 384)
	wantAlloc(t, m, pointers(16), 4, list(384, 256), 0, api.ErrFull)
	wantPhase(t, m, api.Idle, 2)
	wantInfo(t, m, 256, object(256, 128, 3), api.OK)
	wantInfo(t, m, 384, object(384, 128, 2), api.OK)
	wantSet(t, m, 256, 15, 384, api.OK)
	wantAlloc(t, m, pointers(16), 5, list(0, 256), 0, api.ErrFull)
	wantPhase(t, m, api.Idle, 3)
	wantAlloc(t, m, pointers(16), 6, list(384), 256, api.OK)
	wantPhase(t, m, api.Idle, 4)
	wantLive(t, m, 256, 384)
}

// P9.2: where Since is at the pace, the Begin of the pace comes first, and the cycle that is ended is its cycle; where that makes no room, one more is carried out.
func TestFullAtThePace(t *testing.T) {
	m := full(t, 32)
	wantAlloc(t, m, pointers(16), 3, list(384), 256, api.OK)
	wantPhase(t, m, api.Idle, 1)
	m = full(t, 32)
	wantAlloc(t, m, pointers(16), 3, list(384, 256), 0, api.ErrFull)
	wantPhase(t, m, api.Idle, 2)
	m = full(t, 33)
	wantAlloc(t, m, pointers(16), 3, list(384, 256), 0, api.ErrFull)
	wantPhase(t, m, api.Idle, 1)
}

// P9.2: in the phases Mark and Sweep, what fits once the cycle that runs has ended begins no other.
func TestFullWithinACycle(t *testing.T) {
	for _, phase := range []int{api.Mark, api.Sweep} {
		m := full(t, never)
		wantBegin(t, m, list(256), api.OK)
		if phase == api.Sweep {
			toSweep(m)
		}
		wantPhase(t, m, phase, 0)
		wantAlloc(t, m, pointers(16), 3, list(256), 384, api.OK)
		wantPhase(t, m, api.Idle, 1)
		wantLive(t, m, 256, 384)
		wantInfo(t, m, 384, object(384, 128, 3), api.OK)
	}
}

// P9.2: what fits not behind the cycle that runs, but behind a full one, since the roots have changed in between.
func TestFullBehindACycle(t *testing.T) {
	for _, phase := range []int{api.Mark, api.Sweep} {
		m := full(t, never)
		wantBegin(t, m, list(256, 384), api.OK)
		if phase == api.Sweep {
			toSweep(m)
		}
		wantAlloc(t, m, pointers(16), 3, list(384), 256, api.OK)
		wantPhase(t, m, api.Idle, 2)
		wantInfo(t, m, 256, object(256, 128, 3), api.OK)
		wantInfo(t, m, 384, object(384, 128, 2), api.OK)
		m = full(t, never)
		wantBegin(t, m, list(256, 384), api.OK)
		if phase == api.Sweep {
			toSweep(m)
		}
		wantAlloc(t, m, pointers(16), 3, list(384, 256), 0, api.ErrFull)
		wantPhase(t, m, api.Idle, 2)
		wantLive(t, m, 256, 384)
	}
}

// P9.2: the roots of an Alloc are held by the cycle that it ends, where nothing else holds them.
func TestFullHoldsRoots(t *testing.T) {
	m := full(t, never)
	wantSet(t, m, 256, 0, 384, api.OK)
	wantBegin(t, m, nil, api.OK)
	wantAlloc(t, m, pointers(16), 3, list(256), 0, api.ErrFull)
	wantPhase(t, m, api.Idle, 2)
	wantLive(t, m, 256, 384)
	wantInfo(t, m, 256, object(256, 128, 1, 384), api.OK)
	m = full(t, never)
	wantBegin(t, m, nil, api.OK)
	wantAlloc(t, m, pointers(16), 3, list(256), 384, api.OK)
	wantPhase(t, m, api.Idle, 1)
	wantLive(t, m, 256, 384)
}

// P9.2: beside ErrFull what was begun and swept is so: what nothing reaches is gone, though it makes too little room, and Since is 0.
func TestFullForEver(t *testing.T) {
	for _, n := range []int{33, 64, most} {
		m := build(t, 2, 6)
		wantAlloc(t, m, shape("p"), 1, nil, 256, api.OK)
		wantAlloc(t, m, plain(3), 2, nil, 512, api.OK)
		wantAlloc(t, m, shape("p"), 3, nil, 264, api.OK)
		wantAlloc(t, m, plain(n), 4, list(264), 0, api.ErrFull)
		wantView(t, m, nil, api.View{Objects: []api.Object{object(264, 8, 3)}, Free: []api.Run{{Start: 1, Len: 1}}, Cycles: 1}, api.OK)
		wantAlloc(t, m, plain(5), 5, list(264), 512, api.OK)
		wantAlloc(t, m, plain(1), 6, list(264), 256, api.OK)
		wantPhase(t, m, api.Idle, 1) // nothing was allocated by what did not fit
		wantAlloc(t, m, plain(1), 7, list(264), 272, api.OK)
		wantPhase(t, m, api.Mark, 1)
	}
}

// P9.2: as many objects as the greatest memory has room for, and one more.
func TestManyObjects(t *testing.T) {
	m := build(t, api.MaxPages, never)
	count := api.MaxPages * api.PageSize / 8
	roots := make([]int, count)
	for i := range count {
		roots[i] = 256 + 8*i
		wantAlloc(t, m, shape("p"), i, nil, roots[i], api.OK)
	}
	wantSet(t, m, 256, 0, uint64(roots[count-1]), api.OK)
	wantAlloc(t, m, shape("p"), 0, roots, 0, api.ErrFull)
	wantPhase(t, m, api.Idle, 1)
	wantLive(t, m, roots...)
	wantAlloc(t, m, shape("p"), 0, list(256), 264, api.OK)
	wantPhase(t, m, api.Idle, 2)
	wantLive(t, m, 256, 264, roots[count-1])
}

// P9.3: words that are no pointers hold any number, and hold nothing that is named by it.
func TestPlainWords(t *testing.T) {
	m := build(t, 2, never)
	wantAlloc(t, m, shape("---"), 0, nil, 256, api.OK)
	wantAlloc(t, m, shape("-"), 0, nil, 512, api.OK)
	for i, v := range []uint64{0, 1, 7, 255, 256, 257, 512, 513, math.MaxInt64, 1 << 63, math.MaxUint64 - 1, math.MaxUint64, 0x0102030405060708} {
		wantSet(t, m, 256, i%3, v, api.OK)
		wantGet(t, m, 256, i%3, v, api.OK)
	}
	wantSet(t, m, 256, 0, 512, api.OK)
	wantSet(t, m, 256, 2, 3, api.OK)
	wantWords(t, m, 256, 512, math.MaxUint64-1, 3)
	wantInfo(t, m, 256, object(256, 24, 0), api.OK)
	wantBegin(t, m, list(256), api.OK)
	wantSet(t, m, 256, 1, 512, api.OK)
	m.Work(100)
	wantLive(t, m, 256)
	wantWords(t, m, 256, 512, 512, 3)
}

// P9.3: the words of an object where pointers and others stand mixed: each pointer is the slot that it should be.
func TestMixedWords(t *testing.T) {
	const form = "-pp--p-p"
	m := build(t, 4, never)
	wantAlloc(t, m, shape(form), 0, nil, 256, api.OK)
	for i := range 8 {
		wantAlloc(t, m, shape("-"), 0, nil, 512+8*i, api.OK)
	}
	wantNodes := func(want ...int) {
		t.Helper()
		if got, e := m.Slots(0); !slices.Equal(got, want) || e != api.OK {
			t.Errorf("slots: %v, %d, want %v", got, e, want)
		}
	}
	wantNodes(-1, -1, -1, -1)
	for i := range form {
		wantSet(t, m, 256, i, uint64(512+8*i), api.OK)
	}
	wantWords(t, m, 256, 512, 520, 528, 536, 544, 552, 560, 568)
	wantInfo(t, m, 256, object(256, 64, 0, 520, 528, 552, 568), api.OK)
	wantNodes(2, 3, 6, 8)
	wantSet(t, m, 256, 2, 0, api.OK)
	wantSet(t, m, 256, 3, 0, api.OK)
	wantSet(t, m, 256, 7, 256, api.OK)
	wantNodes(2, -1, 6, 0)
	wantInfo(t, m, 256, object(256, 64, 0, 520, 552, 256), api.OK)
	wantCollect(t, m, list(256), api.OK)
	wantLive(t, m, 256, 520, 552)
	wantWords(t, m, 256, 512, 520, 0, 0, 544, 552, 560, 256)
}

// P9.3: pointers hold 0 or the addresses of live objects, the object's own among them, in each phase; one may be named by several.
func TestPointers(t *testing.T) {
	for _, phase := range phases() {
		m := world(t, phase)
		for _, v := range append(alive(phase), 256, 512, 0, 0, 512) {
			for _, i := range []int{2, 0} {
				wantSet(t, m, 256, i, uint64(v), api.OK)
				wantGet(t, m, 256, i, uint64(v), api.OK)
			}
			wantGet(t, m, 256, 1, 784, api.OK)
			if v == 0 {
				wantInfo(t, m, 256, object(256, 24, 0), api.OK)
			} else {
				wantInfo(t, m, 256, object(256, 24, 0, v, v), api.OK)
			}
		}
	}
}

// P9.3: a pointer that is Set while marking: what it held outlives the cycle.
func TestSetToNothingWhileMarking(t *testing.T) {
	m := build(t, 1, never)
	for i := range 4 {
		wantAlloc(t, m, shape("p"), 0, nil, 256+8*i, api.OK)
	}
	wantSet(t, m, 256, 0, 264, api.OK)
	wantSet(t, m, 264, 0, 272, api.OK)
	wantBegin(t, m, list(256), api.OK)
	wantSet(t, m, 256, 0, 0, api.OK)
	wantInfo(t, m, 256, object(256, 8, 0), api.OK)
	m.Work(100)
	wantLive(t, m, 256, 264, 272)
	wantCollect(t, m, list(256), api.OK)
	wantLive(t, m, 256)
}

// P9.3: a pointer that is Set while marking to an object of which nothing else is known: that outlives the cycle, and what it names.
func TestSetWhileMarking(t *testing.T) {
	m := build(t, 1, never)
	for i := range 5 {
		wantAlloc(t, m, shape("p"), 0, nil, 256+8*i, api.OK)
	}
	wantSet(t, m, 272, 0, 280, api.OK)
	wantBegin(t, m, list(256), api.OK)
	wantWork(t, m, 2, 0) // 256 is Black
	wantSet(t, m, 256, 0, 272, api.OK)
	m.Work(100)
	wantLive(t, m, 256, 272, 280)
	// To itself: it is not named from outside, but written into a slot.
	wantBegin(t, m, list(256), api.OK)
	wantSet(t, m, 256, 0, 256, api.OK)
	m.Work(100)
	wantLive(t, m, 256, 272, 280)
	wantBegin(t, m, list(256), api.OK)
	wantSet(t, m, 280, 0, 280, api.OK)
	m.Work(100)
	wantLive(t, m, 256, 280)
	wantCollect(t, m, list(256), api.OK)
	wantLive(t, m, 256)
}

// P9.3: a new object that comes while marking is Black; what is Set into it then is held.
func TestSetIntoNewObjectsWhileMarking(t *testing.T) {
	m := build(t, 1, never)
	wantAlloc(t, m, shape("p"), 0, nil, 256, api.OK)
	wantAlloc(t, m, shape("p"), 0, nil, 264, api.OK)
	wantBegin(t, m, nil, api.OK)
	wantAlloc(t, m, shape("p"), 0, nil, 272, api.OK)
	wantSet(t, m, 272, 0, 264, api.OK)
	m.Work(100)
	wantLive(t, m, 264, 272)
	wantInfo(t, m, 272, object(272, 8, 0, 264), api.OK)
}

// P9.3, P9.4, R2, R3: addresses at which no live object begins, in each phase, whatever the word and the number.
func TestWrongAddresses(t *testing.T) {
	for _, phase := range phases() {
		m := world(t, phase)
		for _, n := range append(strange(phase), 0) {
			wantPtrs(t, m, n, nil, api.ErrNone)
			wantInfo(t, m, n, api.Object{}, api.ErrNone)
			for _, i := range []int{math.MinInt, -1, 0, 1, 2, 3, most, math.MaxInt} {
				wantGet(t, m, n, i, 0, api.ErrNone)
				for _, v := range []uint64{0, 256, 1, math.MaxUint64} {
					wantSet(t, m, n, i, v, api.ErrNone)
				}
			}
		}
		wantSameFuture(t, m, world(t, phase))
	}
}

// P9.3, R2, R3: words that an object does not have, in each phase; of what would be wrong as a pointer nothing is asked then.
func TestWrongWords(t *testing.T) {
	for _, phase := range phases() {
		m := world(t, phase)
		for addr, count := range map[int]int{256: 3, 512: 1, 768: 2} {
			for _, i := range []int{math.MinInt, math.MinInt + 1, math.MinInt32, -1 << 32, -8, -3, -1, count, count + 1, 8 * count, most - 1, most,
				math.MaxInt32, 1 << 32, 1 << 61, 1<<61 + 1, math.MaxInt - 1, math.MaxInt} {
				wantGet(t, m, addr, i, 0, api.ErrRange)
				for _, v := range []uint64{0, 256, 512, 1, 552, 784, math.MaxUint64} {
					wantSet(t, m, addr, i, v, api.ErrRange)
				}
			}
		}
		wantSameFuture(t, m, world(t, phase))
	}
}

// P9.3, R3: numbers that no pointer may hold, in each phase: nothing is shaded by them.
func TestWrongPointers(t *testing.T) {
	for _, phase := range phases() {
		m := world(t, phase)
		wrong := []uint64{1<<63 | 256, 1<<62 | 256, 1<<63 | 512, math.MaxUint64, math.MaxUint64 - 255, 1 << 63, 1<<40 | 256}
		for _, n := range strange(phase) {
			wrong = append(wrong, uint64(n))
		}
		for _, v := range wrong {
			wantSet(t, m, 256, 0, v, api.ErrNone)
			wantSet(t, m, 256, 2, v, api.ErrNone)
			wantSet(t, m, 512, 0, v, api.ErrNone)
			wantSet(t, m, 768, 1, v, api.ErrNone)
		}
		wantSameFuture(t, m, world(t, phase))
	}
}

// P9.4: Info tells the pointers that are not 0, in order, and one twice that is named twice; Ptrs what was told.
func TestInfo(t *testing.T) {
	m := world(t, api.Idle)
	wantInfo(t, m, 256, object(256, 24, 0, 512, 256), api.OK)
	wantInfo(t, m, 512, object(512, 8, 1, 768), api.OK)
	wantInfo(t, m, 520, object(520, 8, 2), api.OK)
	wantInfo(t, m, 528, object(528, 8, 9), api.OK)
	wantInfo(t, m, 536, object(536, 8, 6, 512), api.OK)
	wantInfo(t, m, 768, object(768, 16, 3), api.OK)
	wantInfo(t, m, 784, object(784, 16, 4, 520), api.OK)
	wantSet(t, m, 768, 1, 520, api.OK)
	wantInfo(t, m, 768, object(768, 16, 3, 520), api.OK)
	wantSet(t, m, 768, 0, 520, api.OK)
	wantInfo(t, m, 768, object(768, 16, 3, 520, 520), api.OK)
	wantSet(t, m, 768, 1, 512, api.OK)
	wantInfo(t, m, 768, object(768, 16, 3, 520, 512), api.OK)
	for addr, s := range map[int]string{256: "p-p", 512: "p", 520: "-", 528: "-", 536: "p", 768: "pp", 784: "-p"} {
		wantPtrs(t, m, addr, shape(s), api.OK)
	}
}

// P9.5: Begin in the phase Idle; its roots stand in the line in order, each once, 0s left out.
func TestBegin(t *testing.T) {
	cases := []struct{ roots, line []int }{
		{nil, nil}, {list(), nil}, {list(0), nil}, {list(0, 0, 0), nil}, {list(272), list(2)},
		{list(256, 264, 272, 280), list(0, 1, 2, 3)}, {list(280, 272, 264, 256), list(3, 2, 1, 0)},
		{list(0, 272, 0, 256), list(2, 0)}, {list(264, 264), list(1)}, {list(280, 0, 264, 280, 256, 264, 0), list(3, 1, 0)},
	}
	for _, c := range cases {
		m := build(t, 1, never)
		for i := range 4 {
			wantAlloc(t, m, shape("-"), 0, nil, 256+8*i, api.OK)
		}
		wantBegin(t, m, c.roots, api.OK)
		wantPhase(t, m, api.Mark, 0)
		wantLive(t, m, 256, 264, 272, 280)
		wantBlackening(t, m, c.line...)
		var want []int
		for _, n := range slices.Sorted(slices.Values(c.line)) {
			want = append(want, 256+8*n)
		}
		wantLive(t, m, want...)
		wantWork(t, m, 100, 95)
		wantPhase(t, m, api.Idle, 1)
		wantLive(t, m, want...)
	}
}

// P9.5, R2, R3: there is no Begin in the phases Mark and Sweep, whatever the roots, up to their last units; Since stays.
func TestBeginInOtherPhases(t *testing.T) {
	m, plain := world(t, api.Mark), world(t, api.Mark)
	for m.Phase() != api.Idle {
		for _, roots := range [][]int{nil, {}, {0}, {256}, {256, 768}, {1}, {552, 256}, {math.MaxInt}} {
			wantBegin(t, m, roots, api.ErrPhase)
		}
		if x, y := look(m), look(plain); !reflect.DeepEqual(x, y) {
			t.Fatalf("%v, but %v", x, y)
		}
		wantWork(t, m, 1, plain.Work(1))
	}
	wantSameFuture(t, m, plain)
}

// Roots, R2, R3: numbers among the roots that are neither 0 nor a live object's address, wherever they stand, in each phase.
func TestWrongRoots(t *testing.T) {
	for _, phase := range phases() {
		m := world(t, phase)
		for _, n := range strange(phase) {
			for _, roots := range [][]int{{n}, {0, n}, {n, 0}, {256, n}, {n, 256}, {768, 0, n, 512}, {n, n}} {
				wantAlloc(t, m, shape("p"), 0, roots, 0, api.ErrNone)
				wantAlloc(t, m, plain(most), maxTag, roots, 0, api.ErrNone)
				wantCollect(t, m, roots, api.ErrNone)
				wantView(t, m, roots, api.View{}, api.ErrNone)
				if phase == api.Idle {
					wantBegin(t, m, roots, api.ErrNone)
				} else {
					wantBegin(t, m, roots, api.ErrPhase)
				}
			}
		}
		wantSameFuture(t, m, world(t, phase))
	}
}

// P9.5: each unit of a cycle by itself, and what is free behind it: objects are freed as their nodes are swept.
func TestUnits(t *testing.T) {
	m := build(t, 3, never)
	wantAlloc(t, m, shape("-p"), 0, nil, 256, api.OK)
	wantAlloc(t, m, plain(32), 1, nil, 512, api.OK)
	wantAlloc(t, m, shape("p"), 2, nil, 768, api.OK)
	wantAlloc(t, m, shape("-"), 3, nil, 776, api.OK)
	wantSet(t, m, 256, 1, 776, api.OK)
	wantSet(t, m, 256, 0, 768, api.OK)
	wantBegin(t, m, list(256), api.OK)
	steps := []struct {
		phase int
		live  []int
		free  []api.Run
	}{
		{api.Mark, list(256, 512, 768, 776), nil},                  // the slot of 256
		{api.Mark, list(256, 512, 768, 776), nil},                  // 256 is Black
		{api.Mark, list(256, 512, 768, 776), nil},                  // 776 is
		{api.Sweep, list(256, 776), nil},                           // the line is empty
		{api.Sweep, list(256, 776), nil},                           // node 0
		{api.Sweep, list(256, 776), []api.Run{{Start: 1, Len: 1}}}, // node 1: its pages are free
		{api.Sweep, list(256, 776), []api.Run{{Start: 1, Len: 1}}}, // node 2: the page is shared
		{api.Sweep, list(256, 776), []api.Run{{Start: 1, Len: 1}}}, // node 3
		{api.Idle, list(256, 776), []api.Run{{Start: 1, Len: 1}}},  // the end
		{api.Idle, list(256, 776), []api.Run{{Start: 1, Len: 1}}},  // no work any more
	}
	for i, s := range steps {
		wantWork(t, m, 1, boolean(i == len(steps)-1))
		wantPhase(t, m, s.phase, boolean(s.phase == api.Idle))
		wantLive(t, m, s.live...)
		if v, _ := m.View(nil); !slices.Equal(v.Free, s.free) {
			t.Errorf("free: %v, want %v", v.Free, s.free)
		}
		if t.Failed() {
			t.Fatalf("unit %d", i)
		}
	}
	wantAlloc(t, m, shape("p"), 2, nil, 768, api.OK)
}

// P9.5: units below 0, none, and more than there is work; in the phase Idle none is used.
func TestWorkOfAnyUnits(t *testing.T) {
	need := map[int]int{
		api.Idle:  0,
		api.Mark:  2 + 3 + 2 + 1 + 9 + 1, // what is left of 256; 768; 512; the end; nine numbers; the end
		api.Sweep: 6 + 1,                 // the numbers from 3 to 8, and the end
	}
	for _, phase := range phases() {
		m := world(t, phase)
		for _, units := range []int{0, -1, -2, math.MinInt32, math.MinInt + 1, math.MinInt} {
			wantWork(t, m, units, 0)
		}
		wantSameFuture(t, m, world(t, phase))
		for _, units := range []int{1, 2, need[phase], need[phase] + 1, 100, math.MaxInt32, 1 << 40, math.MaxInt - 1, math.MaxInt} {
			m := world(t, phase)
			wantWork(t, m, units, max(units-need[phase], 0))
			if units >= need[phase] {
				wantPhase(t, m, api.Idle, 1+boolean(phase != api.Idle))
			}
		}
	}
}

// P9.5: work in pieces of any size does what it does at one time.
func TestWorkInPieces(t *testing.T) {
	for _, phase := range []int{api.Mark, api.Sweep} {
		whole := world(t, phase)
		need := 1000 - whole.Work(1000)
		for size := 1; size <= need+1; size++ {
			m, used := world(t, phase), 0
			for m.Phase() != api.Idle {
				left := m.Work(size)
				used += size - left
				if left > 0 && m.Phase() != api.Idle {
					t.Fatalf("%d of %d units left, and the phase is %d", left, size, m.Phase())
				}
			}
			if used != need || !reflect.DeepEqual(look(m), look(whole)) {
				t.Errorf("by %d: %d units, %v, want %d, %v", size, used, look(m), need, look(whole))
			}
			other := world(t, phase)
			other.Work(1000)
			wantSameFuture(t, m, other)
		}
	}
}

// P9.5: Collect in each phase: the cycle that runs is ended, and a whole one carried out; what the roots reach lives, all else is gone.
func TestCollect(t *testing.T) {
	cases := []struct{ roots, live []int }{
		{nil, nil}, {list(), nil}, {list(0), nil}, {list(256), list(256, 512, 768)}, {list(768), list(768)},
		{list(512, 0, 768, 512), list(512, 768)}, {list(0, 768, 256), list(256, 512, 768)},
	}
	for _, phase := range phases() {
		for _, c := range cases {
			m := world(t, phase)
			wantCollect(t, m, c.roots, api.OK)
			wantPhase(t, m, api.Idle, 2+boolean(phase != api.Idle))
			wantLive(t, m, c.live...)
		}
	}
	for _, phase := range []int{api.Idle, api.Mark} {
		m := world(t, phase)
		wantCollect(t, m, list(784), api.OK)
		wantLive(t, m, 520, 784)
		m = world(t, phase)
		wantCollect(t, m, alive(phase), api.OK)
		wantLive(t, m, alive(phase)...)
	}
}

// P9.5: in the phase Mark the roots of Collect are shaded, in order: the cycle that runs does not sweep them.
func TestCollectShadesRoots(t *testing.T) {
	m := build(t, 1, never)
	for i := range 4 {
		wantAlloc(t, m, shape("p"), i, nil, 256+8*i, api.OK)
	}
	wantSet(t, m, 272, 0, 280, api.OK)
	wantBegin(t, m, nil, api.OK)
	wantCollect(t, m, list(0, 272, 264), api.OK)
	wantPhase(t, m, api.Idle, 2)
	wantView(t, m, nil, api.View{Objects: []api.Object{object(264, 8, 1), object(272, 8, 2, 280), object(280, 8, 3)}, Cycles: 2}, api.OK)
}

// P9.5: objects that name one another are gone, if nothing else names them.
func TestCollectOfCircles(t *testing.T) {
	m := build(t, 1, never)
	for i := range 4 {
		wantAlloc(t, m, shape("p"), i, nil, 256+8*i, api.OK)
	}
	for i, to := range []uint64{264, 256, 272, 256} {
		wantSet(t, m, 256+8*i, 0, to, api.OK)
	}
	wantCollect(t, m, list(280), api.OK)
	wantLive(t, m, 256, 264, 280)
	wantSet(t, m, 280, 0, 0, api.OK)
	wantCollect(t, m, list(280), api.OK)
	wantLive(t, m, 280)
}

// P9.5: Phase and Cycles through several cycles.
func TestPhaseAndCycles(t *testing.T) {
	m := build(t, 1, never)
	wantAlloc(t, m, shape("p"), 0, nil, 256, api.OK)
	for cycle := range 5 {
		wantPhase(t, m, api.Idle, cycle)
		wantBegin(t, m, list(256), api.OK)
		wantPhase(t, m, api.Mark, cycle)
		wantWork(t, m, 2, 0)
		wantPhase(t, m, api.Mark, cycle)
		wantWork(t, m, 1, 0)
		wantPhase(t, m, api.Sweep, cycle)
		wantWork(t, m, 1, 0)
		wantPhase(t, m, api.Sweep, cycle)
		wantWork(t, m, 1, 0)
	}
	wantPhase(t, m, api.Idle, 5)
}

// P9.6: how many words fit, on an empty heap and on a full one.
func TestFits(t *testing.T) {
	wrong := list(math.MinInt, math.MinInt+1, math.MinInt32, -most, -1, 0, most+1, most+2, 2*most, 65536, math.MaxInt32,
		1<<32, 1<<32+1, 1<<61, 1<<61+1, 1<<62, math.MaxInt-1, math.MaxInt)
	for _, pages := range []int{0, 1, 2, 255, 256, 257, api.MaxPages} {
		m := build(t, pages, never)
		for _, n := range []int{1, 2, 16, 17, 31, 32, 33, 64, 65, most - 1, most} {
			wantFits(t, m, n, (n*8+255)/256 <= pages)
		}
		for _, n := range wrong {
			wantFits(t, m, n, false)
		}
		for range pages {
			if _, e := m.Alloc(plain(32), 0, nil); e != api.OK {
				t.Errorf("Alloc: %d", e)
			}
		}
		for _, n := range append(wrong, 1, 2, 16, 17, 32, 33, most-1, most) {
			wantFits(t, m, n, false)
		}
		wantPhase(t, m, api.Idle, 0)
		wantCollect(t, m, nil, api.OK)
		wantFits(t, m, most, pages >= 256)
	}
}

// P9.6: Fits tells of the heap as it is, dead objects included, and does no work for it.
func TestFitsDoesNoWork(t *testing.T) {
	m := full(t, 1)
	for _, phase := range []int{api.Mark, api.Sweep} {
		wantPhase(t, m, phase, 0)
		wantFits(t, m, 16, false)
		wantFits(t, m, 1, false)
		wantPhase(t, m, phase, 0)
		toSweep(m)
	}
	wantWork(t, m, 1, 0)
	wantFits(t, m, 16, true)
	wantFits(t, m, 1, false)
	wantPhase(t, m, api.Sweep, 0)
}

// P9.7: View in each phase: what is dead is not told, though the pages that it takes are not free; roots come as they are, without the 0s.
func TestView(t *testing.T) {
	free := []api.Run{{Start: 3, Len: 1}}
	a, b, d := object(256, 24, 0, 512, 256), object(512, 8, 1, 768), object(768, 16, 3)
	c, e, g, i, j := object(520, 8, 2), object(784, 16, 4, 520), object(536, 8, 6, 512), object(528, 8, 9), object(544, 8, 10)
	objects := map[int][]api.Object{api.Idle: {a, b, c, i, g, d, e}, api.Mark: {a, b, c, i, g, j, d, e}, api.Sweep: {a, b, j, d}}
	for _, phase := range phases() {
		m := world(t, phase)
		for _, r := range []struct{ roots, want []int }{
			{nil, nil}, {list(), nil}, {list(0), nil}, {list(0, 0), nil}, {list(256), list(256)},
			{list(768, 0, 256, 512, 0), list(768, 256, 512)}, {list(0, 512, 512, 256, 512), list(512, 512, 256, 512)},
		} {
			wantView(t, m, r.roots, api.View{Objects: objects[phase], Free: free, Roots: r.want, Phase: phase, Cycles: 1}, api.OK)
		}
		wantSameFuture(t, m, world(t, phase))
	}
}

// P9.7: objects stand by rising address, in whatever order they came; free runs stand between them.
func TestViewByAddress(t *testing.T) {
	m := build(t, 8, never)
	wantAlloc(t, m, plain(64), 1, nil, 256, api.OK)
	wantAlloc(t, m, plain(1), 2, nil, 768, api.OK)
	wantAlloc(t, m, plain(70), 3, nil, 1024, api.OK)
	wantAlloc(t, m, plain(2), 4, nil, 1792, api.OK)
	wantAlloc(t, m, plain(1), 5, nil, 776, api.OK)
	wantCollect(t, m, list(1792, 776), api.OK)
	wantView(t, m, list(776), api.View{Objects: []api.Object{object(776, 8, 5), object(1792, 16, 4)},
		Free: []api.Run{{Start: 0, Len: 2}, {Start: 3, Len: 3}, {Start: 7, Len: 1}}, Roots: list(776), Cycles: 1}, api.OK)
	wantAlloc(t, m, plain(3), 6, nil, 256, api.OK)
	wantAlloc(t, m, plain(1), 7, nil, 768, api.OK)
	wantLive(t, m, 256, 768, 776, 1792)
}

// P9.7: of no objects; and where all are dead, but none is swept, no page is free.
func TestViewOfNoObjects(t *testing.T) {
	m := full(t, never)
	wantBegin(t, m, nil, api.OK)
	toSweep(m)
	wantView(t, m, list(0), api.View{Phase: api.Sweep}, api.OK)
	wantWork(t, m, 1, 0)
	wantView(t, m, nil, api.View{Phase: api.Sweep}, api.OK)
	wantWork(t, m, 1, 0)
	wantView(t, m, nil, api.View{Free: []api.Run{{Start: 0, Len: 1}}, Phase: api.Sweep}, api.OK)
	wantWork(t, m, 2, 1)
	wantView(t, m, nil, api.View{Free: []api.Run{{Start: 0, Len: 1}}, Cycles: 1}, api.OK)
}

// P9.8: a nil memory, with arguments that would be right and others.
func TestNilMemory(t *testing.T) {
	var m *memory.Memory
	for _, n := range append(strange(api.Idle), 0, 256, 512) {
		for _, roots := range [][]int{nil, {0}, {n}, {256, n}} {
			wantAlloc(t, m, shape("p-"), 0, roots, 0, api.ErrArg)
			wantAlloc(t, m, shape("p-"), n, roots, 0, api.ErrArg)
			wantAlloc(t, m, nil, n, roots, 0, api.ErrArg)
			wantBegin(t, m, roots, api.ErrArg)
			wantCollect(t, m, roots, api.ErrArg)
			wantView(t, m, roots, api.View{}, api.ErrArg)
		}
		wantGet(t, m, n, 0, 0, api.ErrArg)
		wantGet(t, m, 256, n, 0, api.ErrArg)
		wantSet(t, m, n, 0, 0, api.ErrArg)
		wantSet(t, m, 256, n, 0, api.ErrArg)
		wantSet(t, m, 256, 0, uint64(n), api.ErrArg)
		wantPtrs(t, m, n, nil, api.ErrArg)
		wantInfo(t, m, n, api.Object{}, api.ErrArg)
		wantWork(t, m, n, 0)
		wantFits(t, m, n, false)
	}
	wantFits(t, m, 1, false)
	wantPhase(t, m, api.Idle, 0)
}

// R3: who looks changes nothing.
func TestLookingChangesNothing(t *testing.T) {
	for _, phase := range phases() {
		m := world(t, phase)
		for range 3 {
			look(m)
			m.View(alive(phase))
		}
		wantSameFuture(t, m, world(t, phase))
	}
}

// spare answers a list with room behind it that holds something, and the whole of it.
func spare[T any](l []T, behind ...T) ([]T, []T) {
	whole := append(slices.Clone(l), behind...)
	return whole[:len(l)], whole
}

// R4: ptrs are not changed, spare room too, and not kept.
func TestPtrsStayTheCallers(t *testing.T) {
	m := build(t, 1, never)
	ptrs, whole := spare(shape("p-p-"), true, false, true)
	want := slices.Clone(whole)
	wantAlloc(t, m, ptrs, 0, nil, 256, api.OK)
	if !slices.Equal(whole, want) {
		t.Errorf("ptrs are %v, want %v", whole, want)
	}
	for i := range whole {
		whole[i] = !whole[i]
	}
	wantPtrs(t, m, 256, shape("p-p-"), api.OK)
	wantSet(t, m, 256, 0, 1, api.ErrNone)
	wantSet(t, m, 256, 1, 1, api.OK)
	wantSet(t, m, 256, 2, 256, api.OK)
	wantInfo(t, m, 256, object(256, 32, 0, 256), api.OK)
}

// R4: roots are not changed, spare room too, and not kept, by any call that takes them.
func TestRootsStayTheCallers(t *testing.T) {
	calls := map[string]func(m *memory.Memory, roots []int) api.Errno{
		"Alloc": func(m *memory.Memory, roots []int) api.Errno {
			_, e := m.Alloc(shape("p"), 0, roots)
			return e
		},
		"Begin":   func(m *memory.Memory, roots []int) api.Errno { return m.Begin(roots) },
		"Collect": func(m *memory.Memory, roots []int) api.Errno { return m.Collect(roots) },
		"View": func(m *memory.Memory, roots []int) api.Errno {
			v, e := m.View(roots)
			for i := range v.Roots[:cap(v.Roots)] {
				v.Roots[:cap(v.Roots)][i] = 999
			}
			return e
		},
	}
	for name, call := range calls {
		for _, phase := range phases() {
			if name == "Begin" && phase != api.Idle {
				continue
			}
			a, b := world(t, phase), world(t, phase)
			roots, whole := spare(list(768, 0, 512, 768), 256, 0, 1, 512)
			want := slices.Clone(whole)
			if e := call(a, roots); e != api.OK {
				t.Errorf("%s: %d", name, e)
			}
			call(b, slices.Clone(roots))
			if !slices.Equal(whole, want) {
				t.Errorf("%s: roots are %v, want %v", name, whole, want)
			}
			for i := range whole {
				whole[i] = 256
			}
			wantSameFuture(t, a, b)
		}
	}
}

// R4: ptrs that are answered are not the memory's, nor those of another answer.
func TestAnsweredPtrsAreNew(t *testing.T) {
	m := build(t, 1, never)
	wantAlloc(t, m, shape("p-p"), 0, nil, 256, api.OK)
	first, _ := m.Ptrs(256)
	second, _ := m.Ptrs(256)
	for i := range first[:cap(first)] {
		first[:cap(first)][i] = !first[:cap(first)][i]
	}
	if !slices.Equal(second, shape("p-p")) {
		t.Errorf("another answer has changed: %v", second)
	}
	wantPtrs(t, m, 256, shape("p-p"), api.OK)
	wantSet(t, m, 256, 1, 1, api.OK)
	wantSet(t, m, 256, 0, 1, api.ErrNone)
}

// overwrite fills all lists of a view, spare room too.
func overwrite(v api.View) {
	for _, o := range v.Objects {
		for i := range o.Refs[:cap(o.Refs)] {
			o.Refs[:cap(o.Refs)][i] = -5
		}
	}
	for i := range v.Roots[:cap(v.Roots)] {
		v.Roots[:cap(v.Roots)][i] = -6
	}
	for i := range v.Free[:cap(v.Free)] {
		v.Free[:cap(v.Free)][i] = api.Run{Start: -7, Len: -7, Used: true}
	}
	for i := range v.Objects[:cap(v.Objects)] {
		v.Objects[:cap(v.Objects)][i] = object(-8, -8, -8)
	}
}

// R4: what Info and View answer is not the memory's, nor that of another answer, and no two of its lists share anything.
func TestAnsweredViewsAreNew(t *testing.T) {
	m := world(t, api.Mark)
	roots := list(256, 768)
	first, _ := m.View(roots)
	second, _ := m.View(roots)
	info, _ := m.Info(256)
	want, _ := m.View(roots)
	overwrite(first)
	if !sameView(second, want) {
		t.Errorf("another answer has changed: %v, want %v", second, want)
	}
	if !same(info, object(256, 24, 0, 512, 256)) || !slices.Equal(roots, list(256, 768)) {
		t.Errorf("Info's answer or the roots have changed: %v, %v", info, roots)
	}
	overwrite(api.View{Objects: []api.Object{info}})
	wantView(t, m, roots, want, api.OK)
	for i := range second.Objects {
		clear(second.Objects[i].Refs[:cap(second.Objects[i].Refs)])
		for k, o := range second.Objects {
			if k > i && !slices.Equal(o.Refs, want.Objects[k].Refs) {
				t.Errorf("Refs of %d have changed with those of %d", o.Addr, second.Objects[i].Addr)
			}
		}
	}
	wantSameFuture(t, m, world(t, api.Mark))
}

// R4: an answer does not change with the memory.
func TestAnswersStay(t *testing.T) {
	m := world(t, api.Idle)
	before := look(m)
	want := look(world(t, api.Idle))
	wantSet(t, m, 256, 0, 0, api.OK)
	wantCollect(t, m, list(768), api.OK)
	wantAlloc(t, m, plain(40), 1, nil, 256, api.OK)
	if !reflect.DeepEqual(before, want) {
		t.Errorf("%v, want %v", before, want)
	}
}

// R5: two memories know nothing of each other.
func TestMemoriesAreApart(t *testing.T) {
	a, b, c := world(t, api.Mark), world(t, api.Sweep), build(t, 1, 1)
	wantAlloc(t, c, shape("p"), 1, nil, 256, api.OK)
	wantAlloc(t, c, shape("p"), 1, nil, 264, api.OK)
	wantSet(t, c, 256, 0, 264, api.OK)
	wantCollect(t, c, list(256), api.OK)
	wantSet(t, c, 256, 0, 0, api.OK)
	wantSameFuture(t, a, world(t, api.Mark))
	wantSameFuture(t, b, world(t, api.Sweep))
	wantLive(t, c, 256, 264)
	wantPhase(t, c, api.Idle, 2)
}

// 'Ways': a memory embeds its graph, whose nodes are the objects, numbered as chapter 8 numbers them, with the pointers as slots.
func TestGraph(t *testing.T) {
	m := world(t, api.Mark)
	colors := list(api.Grey, api.Grey, api.White, api.Grey, api.White, api.White, api.White, api.Black)
	slots := [][]int{{1, 0}, {3}, {}, {-1, -1}, {2}, {}, {1}, {-1}}
	for n := range colors {
		c, _ := m.Color(n)
		s, e := m.Slots(n)
		if c != colors[n] || !slices.Equal(s, slots[n]) || e != api.OK {
			t.Errorf("node %d: color %d, slots %v, %d, want %d, %v", n, c, s, e, colors[n], slots[n])
		}
	}
	if got := slices.Collect(m.Live()); len(got) != len(colors) {
		t.Errorf("live nodes: %v", got)
	}
}
