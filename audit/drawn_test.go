package audit_test

import (
	"math/rand"
	"slices"
	"testing"

	"heddle/api"
	"heddle/memory"
)

// modelSound goes by the words of the chapter, one after the other.
func modelSound(v api.View) bool {
	for _, n := range numbers(&v) {
		if *n > top {
			return false
		}
	}
	for i, o := range v.Objects {
		if o.Addr%8 != 0 || o.Addr < api.PageSize || o.Size < 1 || o.Tag < 0 {
			return false
		}
		if i > 0 && (v.Objects[i-1].Addr >= o.Addr || v.Objects[i-1].Addr+v.Objects[i-1].Size > o.Addr) {
			return false
		}
	}
	for i, r := range v.Free {
		if r.Start < 0 || r.Len < 1 || r.Used || i > 0 && v.Free[i-1].Start+v.Free[i-1].Len >= r.Start {
			return false
		}
	}
	return modelNames(v) && modelPages(v) && slices.Contains(list(api.Idle, api.Mark, api.Sweep), v.Phase) && v.Cycles >= 0
}

func modelNames(v api.View) bool {
	named := slices.Clone(v.Roots)
	for _, o := range v.Objects {
		named = append(named, o.Refs...)
	}
	for _, addr := range named {
		if !slices.ContainsFunc(v.Objects, func(o api.Object) bool { return o.Addr == addr }) {
			return false
		}
	}
	return true
}

// modelPages holds each object against each run; only pages of a sound view are asked for.
func modelPages(v api.View) bool {
	for _, o := range v.Objects {
		first, last := o.Addr/api.PageSize-1, (o.Addr+o.Size-1)/api.PageSize-1
		for _, r := range v.Free {
			if last >= r.Start && first < r.Start+r.Len {
				return false
			}
		}
	}
	return true
}

// modelReached adds what is named till nothing more comes, and tells all objects apart by it.
func modelReached(v api.View) (reached, garbage []int) {
	in := map[int]int{}
	for _, addr := range v.Roots {
		in[addr] = 1
	}
	for before := -1; before != len(in); {
		before = len(in)
		for _, o := range v.Objects {
			for _, addr := range o.Refs {
				if in[o.Addr] == 1 {
					in[addr] = 1
				}
			}
		}
	}
	for _, o := range v.Objects {
		if in[o.Addr] == 1 {
			reached = append(reached, o.Addr)
		} else {
			garbage = append(garbage, o.Addr)
		}
	}
	return reached, garbage
}

// modelLack answers the addresses of v's objects that w does not have.
func modelLack(v, w api.View) (out []int) {
	for _, o := range v.Objects {
		if !slices.ContainsFunc(w.Objects, func(x api.Object) bool { return x.Addr == o.Addr && x.Size == o.Size && x.Tag == o.Tag }) {
			out = append(out, o.Addr)
		}
	}
	return out
}

// wantModel holds all calls of one view against the model, and tells whether it is sound.
func wantModel(t *testing.T, v api.View) bool {
	t.Helper()
	if !modelSound(v) {
		wantUnsound(t, v)
		return false
	}
	reached, garbage := modelReached(v)
	sum := 0
	for _, o := range v.Objects {
		sum += o.Size
	}
	wantSound(t, v, reached, garbage, sum)
	wantDiff(t, v, sample(), modelLack(sample(), v), modelLack(v, sample()), api.OK)
	return true
}

// drawView answers a view of a few pages, of which each is free, of slots, or begins a large object; it is sound.
func drawView(draw *rand.Rand) api.View {
	v := api.View{Phase: draw.Intn(3), Cycles: draw.Intn(4)}
	for page := 0; page < 6; page++ {
		switch draw.Intn(3) {
		case 0:
			if n := len(v.Free); n > 0 && v.Free[n-1].Start+v.Free[n-1].Len == page {
				v.Free[n-1].Len++
			} else {
				v.Free = append(v.Free, run(page, 1))
			}
		case 1:
			slot := list(8, 24, 64, 128)[draw.Intn(4)]
			for at := 0; at+slot <= api.PageSize; at += slot * (draw.Intn(4) + 1) {
				v.Objects = append(v.Objects, object((page+1)*api.PageSize+at, slot-draw.Intn(8), draw.Intn(3)))
			}
		default:
			v.Objects = append(v.Objects, object((page+1)*api.PageSize, 257+draw.Intn(256), draw.Intn(3)))
			page++
		}
	}
	for i := range v.Objects {
		v.Objects[i].Refs = drawNames(draw, v, draw.Intn(3))
	}
	v.Roots = drawNames(draw, v, draw.Intn(4))
	return v
}

func drawNames(draw *rand.Rand, v api.View, n int) (names []int) {
	for ; n > 0 && len(v.Objects) > 0; n-- {
		names = append(names, v.Objects[draw.Intn(len(v.Objects))].Addr)
	}
	return names
}

// spoil changes a number of a view a little, or takes an entry from it, or has two entries change places.
func spoil(draw *rand.Rand, v *api.View) {
	all := numbers(v)
	n, o, f := all[draw.Intn(len(all))], len(v.Objects), len(v.Free)
	switch kind := draw.Intn(8); {
	case kind == 0 && o > 0:
		i := draw.Intn(o)
		v.Objects = slices.Delete(v.Objects, i, i+1)
	case kind == 1 && o > 1:
		i := draw.Intn(o - 1)
		v.Objects[i], v.Objects[i+1] = v.Objects[i+1], v.Objects[i]
	case kind == 2 && f > 1:
		i := draw.Intn(f - 1)
		v.Free[i], v.Free[i+1] = v.Free[i+1], v.Free[i]
	case kind == 3 && f > 0:
		i := draw.Intn(f)
		v.Free[i].Used = true
	case kind == 4:
		*n = ends()[draw.Intn(len(ends()))]
	default:
		*n += list(-256, -8, -2, -1, 1, 2, 8, 256)[draw.Intn(8)]
	}
}

// P21.1 to P21.3: drawn views, sound at first and then with a fault or two, answer as the model does; so do two that differ a little.
func TestDrawnViews(t *testing.T) {
	draw := rand.New(rand.NewSource(21))
	sound, unsound := 0, 0
	for round := range 6000 {
		seed := draw.Int63()
		v, w := drawView(rand.New(rand.NewSource(seed))), drawView(rand.New(rand.NewSource(seed)))
		if !wantModel(t, v) {
			t.Fatalf("round %d: drew an unsound view %v", round, v)
		}
		for range draw.Intn(3) + 1 {
			spoil(draw, &w)
			if !wantModel(t, w) {
				unsound++
				wantDiff(t, v, w, nil, nil, api.ErrForm)
				continue
			}
			sound++
			wantDiff(t, v, w, modelLack(w, v), modelLack(v, w), api.OK)
		}
		if t.Failed() {
			t.Fatalf("round %d", round)
		}
	}
	if sound < 1000 || unsound < 1000 {
		t.Errorf("%d sound, %d unsound: one of the two was hardly tried", sound, unsound)
	}
}

// drawCall draws a call upon a memory.
func drawCall(draw *rand.Rand, m *memory.Memory, live []int) {
	one := func() int {
		if len(live) == 0 || draw.Intn(5) == 0 {
			return 0
		}
		return live[draw.Intn(len(live))]
	}
	switch draw.Intn(6) {
	case 0, 1:
		ptrs := make([]bool, list(1, 2, 3, 9, 40)[draw.Intn(5)])
		for i := range ptrs {
			ptrs[i] = draw.Intn(2) == 0
		}
		m.Alloc(ptrs, draw.Intn(3), list(one(), one()))
	case 2:
		m.Begin(list(one()))
	case 3:
		m.Work(draw.Intn(30))
	default:
		m.Set(one(), draw.Intn(9), uint64(one()))
	}
}

// P21.1 to P21.3: what a memory tells of itself is sound at each step; and what a cycle from beginning to end takes away is what was garbage.
func TestMemoriesViews(t *testing.T) {
	draw := rand.New(rand.NewSource(9))
	for range 60 {
		m, _ := memory.New(draw.Intn(6)+1, 50)
		var live []int
		for range 150 {
			drawCall(draw, m, live)
			v, _ := m.View(nil)
			live = modelLack(v, api.View{})
			wantCheck(t, v, api.OK)
		}
		m.Collect(live)
		var roots []int
		if len(live) > 0 {
			roots = list(live[len(live)/2], live[0])
		}
		before, _ := m.View(roots)
		m.Collect(roots)
		after, _ := m.View(nil)
		_, garbage := modelReached(before)
		wantModel(t, before)
		wantModel(t, after)
		wantDiff(t, before, after, nil, garbage, api.OK)
		if t.Failed() {
			return
		}
	}
}
