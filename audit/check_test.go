package audit_test

import (
	"math"
	"testing"

	"heddle/api"
	"heddle/audit"
)

// The chapter's example, and its free run over the objects.
func TestExample(t *testing.T) {
	v := example()
	wantSound(t, v, list(264), list(256), 16)
	v.Free[0].Start = 0
	wantUnsound(t, v)
}

// P21.1: a view without anything is sound, be its lists nil or empty.
func TestEmptyViews(t *testing.T) {
	wantSound(t, api.View{}, nil, nil, 0)
	wantSound(t, api.View{Objects: []api.Object{}, Free: []api.Run{}, Roots: list()}, nil, nil, 0)
	wantSound(t, api.View{Free: []api.Run{run(0, api.MaxPages)}, Phase: api.Sweep, Cycles: 9}, nil, nil, 0)
	wantUnsound(t, api.View{Roots: list(0)})
	wantUnsound(t, api.View{Roots: list(256)})
}

// P21.1: an address is a multiple of 8, at least PageSize, and at most 2^31.
func TestAddresses(t *testing.T) {
	for _, addr := range list(256, 264, 504, 512, api.MaxArena, api.MaxArena+256, math.MaxInt32-7, top-8, top) {
		wantSound(t, heap(object(addr, 8, 0)), nil, list(addr), 8)
	}
	for _, addr := range list(math.MinInt, -top, -256, -8, 0, 8, 248, 252, 255, 257, 258, 260, 263, 511, top-1, top+1, top+8, 1<<32, 1<<32+256, math.MaxInt-7, math.MaxInt) {
		wantUnsound(t, heap(object(addr, 8, 0)))
		wantUnsound(t, heap(object(addr, math.MaxInt, 0)))
	}
}

// P21.1: a size is from 1 on, of any number, up to 2^31; a tag from 0 on.
func TestSizesAndTags(t *testing.T) {
	for _, size := range list(1, 2, 7, 8, 9, 256, 257, api.MaxObject, api.MaxObject+1, top-1, top) {
		wantSound(t, heap(object(256, size, 0)), nil, list(256), size)
		wantSound(t, heap(object(256, 8, size)), nil, list(256), 8)
	}
	wantSound(t, heap(object(top, top, top)), nil, list(top), top)
	for _, n := range list(math.MinInt, -top, -8, -1, top+1, 1<<32+8, math.MaxInt-256, math.MaxInt) {
		wantUnsound(t, heap(object(256, n, 0)))
		wantUnsound(t, heap(object(256, 8, n)))
	}
	wantUnsound(t, heap(object(256, 0, 0)))
}

// P21.1: each object ends at or ahead of where the next one begins.
func TestObjectsStandApart(t *testing.T) {
	wantSound(t, heap(object(256, 8, 0), object(264, 8, 0), object(272, 8, 0)), nil, list(256, 264, 272), 24)
	wantSound(t, heap(object(256, 1, 0), object(264, 7, 0), object(272, 300, 0), object(800, 1, 0)), nil, list(256, 264, 272, 800), 309)
	wantSound(t, heap(object(256, top-256, 0), object(top, top, 0)), nil, list(256, top), 2*top-256)
	wantUnsound(t, heap(object(256, 9, 0), object(264, 8, 0)))
	wantUnsound(t, heap(object(256, 8, 0), object(264, 9, 0), object(272, 8, 0)))
	wantUnsound(t, heap(object(256, 8, 0), object(256, 8, 0)))
	wantUnsound(t, heap(object(264, 8, 0), object(256, 8, 0)))
	wantUnsound(t, heap(object(256, 8, 0), object(272, 8, 0), object(264, 8, 0)))
	wantUnsound(t, heap(object(256, 8, 0), object(264, 8, 0), object(256, 8, 0)))
	wantUnsound(t, heap(object(256, top-255, 0), object(top, 8, 0)))
	// Reckoned in int, where the first ends would lie ahead of where the second begins.
	wantUnsound(t, heap(object(256, math.MaxInt, 0), object(264, 8, 0)))
}

// P21.1: what is named, by objects or roots, is an object's address: not 0, not one within an object, and none where no object is.
func TestNames(t *testing.T) {
	two := func(refs, roots []int) api.View {
		return api.View{Objects: []api.Object{object(256, 16, 0), object(512, 8, 0, refs...), object(520, 8, 0)}, Roots: roots}
	}
	wantSound(t, two(list(520, 256, 512, 512), nil), nil, list(256, 512, 520), 32)
	wantSound(t, two(nil, list(520, 520, 256)), list(256, 520), list(512), 32)
	for _, addr := range list(math.MinInt, -256, -1, 0, 1, 248, 255, 257, 264, 271, 272, 504, 511, 513, 528, 768, top, top+256, 1<<32+256, math.MaxInt) {
		for _, names := range [][]int{{addr}, {addr, 256}, {256, addr}, {512, addr, 520}} {
			wantUnsound(t, two(names, nil))
			wantUnsound(t, two(nil, names))
		}
	}
	for i := range 3 {
		v := two(nil, nil)
		v.Objects[i].Refs = list(520, 8)
		wantUnsound(t, v)
	}
}

// P21.1: free runs stand by rising Start, from 0 on, with a used page at least between two, and at least one page each.
func TestFreeRuns(t *testing.T) {
	for _, free := range [][]api.Run{
		{run(0, 1)}, {run(5, 1)}, {run(0, 1), run(2, 1)}, {run(0, 2), run(3, 7), run(11, 1), run(100, 900)},
		{run(0, top)}, {run(top, 1)}, {run(top, top)}, {run(1, top-2), run(top, top)},
	} {
		wantSound(t, api.View{Free: free}, nil, nil, 0)
	}
	for _, free := range [][]api.Run{
		{run(-1, 1)}, {run(-1, 2)}, {run(math.MinInt, 1)}, {run(0, 0)}, {run(0, -1)}, {run(3, math.MinInt)},
		{run(0, 1), run(1, 1)}, {run(0, 2), run(2, 3)}, {run(0, 1), run(2, 1), run(3, 1)}, {run(0, 2), run(1, 3)},
		{run(2, 1), run(0, 1)}, {run(4, 1), run(4, 1)}, {run(0, 1), run(4, 1), run(2, 1)}, {run(0, 1), run(2, 0)}, {run(0, 0), run(2, 1)},
		{run(0, top+1)}, {run(top+1, 1)}, {run(math.MaxInt, math.MaxInt)}, {run(0, math.MaxInt), run(2, 1)}, {run(0, top), run(2, 1)}, {run(1, top-1), run(top, 1)},
	} {
		wantUnsound(t, api.View{Free: free})
	}
}

// P21.1: no run that is told as free is used, wherever it stands.
func TestUsedRuns(t *testing.T) {
	for i := range 3 {
		v := sample()
		v.Free[i].Used = true
		wantUnsound(t, v)
	}
	wantUnsound(t, api.View{Free: []api.Run{{Start: 9, Len: 1, Used: true}}})
}

// P21.1: page p has the bytes from p + 1 times PageSize on; no byte of an object is one of a free run's.
func TestObjectsAndFreePages(t *testing.T) {
	beside := []api.View{
		{Objects: []api.Object{object(256, 256, 0)}, Free: []api.Run{run(1, 1)}},
		{Objects: []api.Object{object(504, 8, 0)}, Free: []api.Run{run(1, 1)}},
		{Objects: []api.Object{object(512, 1, 0)}, Free: []api.Run{run(0, 1)}},
		{Objects: []api.Object{object(512, 512, 0)}, Free: []api.Run{run(0, 1), run(3, 4)}},
		{Objects: []api.Object{object(1024, 8, 0)}, Free: []api.Run{run(0, 3), run(4, top)}},
		{Objects: []api.Object{object(256, 256, 0), object(1024, 256, 0)}, Free: []api.Run{run(1, 2)}},
		{Objects: []api.Object{object(top, top, 0)}, Free: []api.Run{run(0, top/256-1), run(top/256*2-1, top)}},
	}
	for i, v := range beside {
		if e := audit.Check(v); e != api.OK {
			t.Errorf("view %d: %d", i, e)
		}
	}
	over := []api.View{
		{Objects: []api.Object{object(256, 1, 0)}, Free: []api.Run{run(0, 1)}},
		{Objects: []api.Object{object(256, 257, 0)}, Free: []api.Run{run(1, 1)}},
		{Objects: []api.Object{object(504, 9, 0)}, Free: []api.Run{run(1, 1)}},
		{Objects: []api.Object{object(504, 1, 0)}, Free: []api.Run{run(0, 1)}},
		{Objects: []api.Object{object(384, 8, 0)}, Free: []api.Run{run(0, 1)}},
		{Objects: []api.Object{object(512, 513, 0)}, Free: []api.Run{run(0, 1), run(3, 4)}},
		{Objects: []api.Object{object(256, 2048, 0)}, Free: []api.Run{run(3, 1)}},
		{Objects: []api.Object{object(1016, 8, 0)}, Free: []api.Run{run(0, 3)}},
		{Objects: []api.Object{object(256, 256, 0), object(1016, 8, 0)}, Free: []api.Run{run(1, 2)}},
		{Objects: []api.Object{object(256, 264, 0), object(1024, 256, 0)}, Free: []api.Run{run(1, 2)}},
		{Objects: []api.Object{object(top, top, 0)}, Free: []api.Run{run(top/256*2-2, 1)}},
		{Objects: []api.Object{object(top, 1, 0)}, Free: []api.Run{run(0, top/256)}},
	}
	for _, v := range over {
		wantUnsound(t, v)
	}
}

// P21.1: each object counts against each run, be they the first or the last: of three pages the first holds an object, and the second is free.
func TestEachObjectAndEachRun(t *testing.T) {
	for i := range 5 {
		var v api.View
		for at := range 5 {
			v.Objects = append(v.Objects, object(256+768*at, 256, 0))
			v.Free = append(v.Free, run(3*at+1, 1))
		}
		wantCheck(t, v, api.OK)
		v.Objects[i].Size = 257
		wantUnsound(t, v)
		v.Objects[i].Size = 256
		v.Free[i].Start--
		wantUnsound(t, v)
		v.Free = v.Free[i : i+1]
		wantUnsound(t, v)
		v.Free[0].Start++
		wantCheck(t, v, api.OK)
	}
}

// P21.1: the phase is one of three, and cycles are from 0 on.
func TestPhasesAndCycles(t *testing.T) {
	for _, phase := range list(api.Idle, api.Mark, api.Sweep) {
		wantSound(t, api.View{Phase: phase}, nil, nil, 0)
	}
	for _, cycles := range list(0, 1, 2, 3, math.MaxInt32, top) {
		wantSound(t, api.View{Cycles: cycles}, nil, nil, 0)
	}
	for _, n := range list(math.MinInt, -top, -1, top+1, math.MaxInt) {
		wantUnsound(t, api.View{Phase: n})
		wantUnsound(t, api.View{Cycles: n})
	}
	wantUnsound(t, api.View{Phase: 3})
	wantUnsound(t, api.View{Phase: top})
}

// P21.1, R1: one number of a view at its ends, and two.
func TestNumbersAtTheirEnds(t *testing.T) {
	v := sample()
	count := len(numbers(&v))
	for i := range count {
		for _, n := range ends() {
			v := sample()
			*numbers(&v)[i] = n
			wantModel(t, v)
			for k := range count {
				w := sample()
				*numbers(&w)[i], *numbers(&w)[k] = n, n
				wantModel(t, w)
			}
		}
	}
}
