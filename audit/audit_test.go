package audit_test

import (
	"slices"
	"testing"

	"heddle/api"
	"heddle/audit"
)

// P21.2: what several roots reach, and what they do not, though it names what is reached.
func TestSample(t *testing.T) {
	v := sample()
	wantSound(t, v, list(256, 280, 768, 1792), list(288), 514)
	v.Roots = list(288)
	wantSound(t, v, list(288, 768), list(256, 280, 1792), 514)
	v.Roots = list(768)
	wantSound(t, v, list(768), list(256, 280, 288, 1792), 514)
	v.Roots = nil
	wantSound(t, v, nil, list(256, 280, 288, 768, 1792), 514)
	v.Roots = list(288, 280)
	wantSound(t, v, list(256, 280, 288, 768, 1792), nil, 514)
}

// P21.2: neither the phase, nor cycles, nor free runs make a difference.
func TestReachedInEachPhase(t *testing.T) {
	for _, phase := range list(api.Idle, api.Mark, api.Sweep) {
		v := sample()
		v.Phase, v.Cycles, v.Free = phase, phase, v.Free[:phase]
		wantSound(t, v, list(256, 280, 768, 1792), list(288), 514)
	}
}

// P21.2: rising, whatever the order in which they are found.
func TestReachedRises(t *testing.T) {
	v := heap(object(256, 8, 0), object(264, 8, 0, 256), object(272, 8, 0, 288, 264, 280), object(280, 8, 0, 264), object(288, 8, 0, 272), object(296, 8, 0))
	all := list(256, 264, 272, 280, 288)
	for _, roots := range [][]int{{288}, {272}, {288, 256}, {280, 288}, {288, 280, 272, 264, 256}, all} {
		v.Roots = roots
		wantSound(t, v, all, list(296), 48)
	}
	v.Roots = list(296, 280)
	wantSound(t, v, list(256, 264, 280, 296), list(272, 288), 48)
}

// P21.2: what goes round, reached and not.
func TestGoingRound(t *testing.T) {
	v := heap(object(256, 8, 0, 264), object(264, 8, 0, 272), object(272, 8, 0, 256), object(512, 16, 0, 528), object(528, 16, 0, 512, 256), object(544, 8, 0, 544, 544))
	for _, root := range list(256, 264, 272) {
		v.Roots = list(root)
		wantSound(t, v, list(256, 264, 272), list(512, 528, 544), 64)
	}
	v.Roots = list(544)
	wantSound(t, v, list(544), list(256, 264, 272, 512, 528), 64)
	v.Roots = list(528)
	wantSound(t, v, list(256, 264, 272, 512, 528), list(544), 64)
}

// P21.2: the limits of nets and graphs are none of a view's: as many objects, as deep, and as much named by one of them as there is.
func TestGreatViews(t *testing.T) {
	n := 2*api.MaxNodes + 1
	var v api.View
	var all []int
	for i := range n {
		addr := 256 + 8*i
		v.Objects = append(v.Objects, object(addr, 8, 0, addr+8))
		all = append(all, addr)
	}
	v.Objects[n-1].Refs = nil
	v.Roots = list(all[1])
	want := func(reached, garbage []int) {
		t.Helper()
		r, e := audit.Reached(v)
		g, f := audit.Garbage(v)
		if !slices.Equal(r, reached) || !slices.Equal(g, garbage) || e != api.OK || f != api.OK {
			t.Errorf("%d reached, %d garbage, %d, %d, want %d, %d", len(r), len(g), e, f, len(reached), len(garbage))
		}
	}
	want(all[1:], all[:1])
	v.Objects[5].Refs = slices.Clone(all)
	slices.Reverse(v.Objects[5].Refs)
	want(all, nil)
	v.Roots = v.Objects[5].Refs
	v.Objects[5].Refs = nil
	want(all, nil)
	v.Roots = all[n-1:]
	want(all[n-1:], all[:n-1])
	if sum, e := audit.Bytes(v); sum != 8*n || e != api.OK {
		t.Errorf("Bytes: %d, %d", sum, e)
	}
}

// P21.3: what came and what went, both rising.
func TestDiff(t *testing.T) {
	v := heap(object(256, 8, 0), object(264, 8, 1), object(512, 300, 0))
	w := heap(object(264, 8, 1), object(272, 8, 0), object(512, 300, 0), object(1024, 16, 0))
	wantDiff(t, v, w, list(272, 1024), list(256), api.OK)
	wantDiff(t, w, v, list(256), list(272, 1024), api.OK)
	wantDiff(t, v, v, nil, nil, api.OK)
	wantDiff(t, v, api.View{}, nil, list(256, 264, 512), api.OK)
	wantDiff(t, api.View{}, v, list(256, 264, 512), nil, api.OK)
	wantDiff(t, api.View{}, api.View{}, nil, nil, api.OK)
}

// P21.3: an object with another size, or another tag, is another object, which came while the other went.
func TestDiffOfOtherObjects(t *testing.T) {
	v := sample()
	for i, o := range v.Objects {
		w := sample()
		w.Objects[i].Tag++
		wantDiff(t, v, w, list(o.Addr), list(o.Addr), api.OK)
		if o.Size > 1 {
			w = sample()
			w.Objects[i].Size--
			wantDiff(t, v, w, list(o.Addr), list(o.Addr), api.OK)
		}
	}
	w := sample()
	w.Objects[0].Size, w.Objects[0].Tag, w.Objects[4].Size = 1, 24, 9
	wantDiff(t, v, w, list(256, 1792), list(256, 1792), api.OK)
	wantDiff(t, w, v, list(256, 1792), list(256, 1792), api.OK)
}

// P21.3: what objects name, and all else that a view has, makes no difference.
func TestDiffOfAllElse(t *testing.T) {
	v, w := sample(), sample()
	for i := range w.Objects {
		w.Objects[i].Refs = list(1792, 256)
	}
	w.Roots, w.Free, w.Phase, w.Cycles = list(288), nil, api.Idle, 0
	wantDiff(t, v, w, nil, nil, api.OK)
	wantDiff(t, w, v, nil, nil, api.OK)
}

// P21.3: the same addresses with others between them.
func TestDiffOfInterleaved(t *testing.T) {
	var even, odd, all []api.Object
	var evenAt, oddAt []int
	for i := range 64 {
		o := object(256+8*i, 8, 0)
		all = append(all, o)
		if i%2 == 0 {
			even, evenAt = append(even, o), append(evenAt, o.Addr)
		} else {
			odd, oddAt = append(odd, o), append(oddAt, o.Addr)
		}
	}
	wantDiff(t, heap(even...), heap(odd...), oddAt, evenAt, api.OK)
	wantDiff(t, heap(even...), heap(all...), oddAt, nil, api.OK)
	wantDiff(t, heap(all...), heap(odd...), nil, evenAt, api.OK)
}
