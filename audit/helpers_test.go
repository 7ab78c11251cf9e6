package audit_test

import (
	"math"
	"slices"
	"testing"

	"heddle/api"
	"heddle/audit"
)

// top is the highest number that a sound view may have.
const top = 1 << 31

// list writes a list of numbers out.
func list(n ...int) []int { return n }

func object(addr, size, tag int, refs ...int) api.Object {
	return api.Object{Addr: addr, Size: size, Tag: tag, Refs: refs}
}

func run(start, pages int) api.Run { return api.Run{Start: start, Len: pages} }

// heap answers a view of these objects alone.
func heap(objects ...api.Object) api.View { return api.View{Objects: objects} }

// example is the view of the chapter's example.
func example() api.View {
	return api.View{Objects: []api.Object{object(256, 8, 0, 264), object(264, 8, 0)}, Roots: list(264), Free: []api.Run{run(1, 1)}}
}

// sample answers a sound view with something of all that there can be: pages 1, 4, 5 and 7 are free, 288 and 768 end and begin where free pages do, and 288 is not reached.
func sample() api.View {
	return api.View{
		Objects: []api.Object{object(256, 24, 1, 1792), object(280, 1, 0, 280, 256), object(288, 224, 5, 768, 288), object(768, 257, 2), object(1792, 8, 3, 768, 768)},
		Free:    []api.Run{run(1, 1), run(4, 2), run(7, 1)},
		Roots:   list(1792, 280, 1792),
		Phase:   api.Mark,
		Cycles:  3,
	}
}

// numbers answers where the numbers of a view stand.
func numbers(v *api.View) []*int {
	out := []*int{&v.Phase, &v.Cycles}
	for i := range v.Objects {
		o := &v.Objects[i]
		out = append(append(out, &o.Addr, &o.Size, &o.Tag), places(o.Refs)...)
	}
	for i := range v.Free {
		out = append(out, &v.Free[i].Start, &v.Free[i].Len)
	}
	return append(out, places(v.Roots)...)
}

func places(l []int) (out []*int) {
	for i := range l {
		out = append(out, &l[i])
	}
	return out
}

// ends answers numbers at which something may go wrong wherever they stand.
func ends() []int {
	return list(math.MinInt, math.MinInt+1, math.MinInt+256, -top-8, -top, -256, -8, -1, 0, 1, 2, 3, 4, 7, 8, 9, 248, 255, 256, 257, 264,
		math.MaxInt32, top-8, top-1, top, top+1, top+8, 1<<32, 1<<32+256, 1<<40, math.MaxInt-256, math.MaxInt-7, math.MaxInt-1, math.MaxInt)
}

func wantCheck(t *testing.T, v api.View, want api.Errno) {
	t.Helper()
	if e := audit.Check(v); e != want {
		t.Errorf("Check(%v) = %d, want %d", v, e, want)
	}
}

func wantReached(t *testing.T, v api.View, addrs []int, want api.Errno) {
	t.Helper()
	if got, e := audit.Reached(v); !slices.Equal(got, addrs) || e != want {
		t.Errorf("Reached(%v) = %v, %d, want %v, %d", v, got, e, addrs, want)
	}
}

func wantGarbage(t *testing.T, v api.View, addrs []int, want api.Errno) {
	t.Helper()
	if got, e := audit.Garbage(v); !slices.Equal(got, addrs) || e != want {
		t.Errorf("Garbage(%v) = %v, %d, want %v, %d", v, got, e, addrs, want)
	}
}

func wantBytes(t *testing.T, v api.View, sum int, want api.Errno) {
	t.Helper()
	if got, e := audit.Bytes(v); got != sum || e != want {
		t.Errorf("Bytes(%v) = %d, %d, want %d, %d", v, got, e, sum, want)
	}
}

func wantDiff(t *testing.T, v, w api.View, came, went []int, want api.Errno) {
	t.Helper()
	c, g, e := audit.Diff(v, w)
	if !slices.Equal(c, came) || !slices.Equal(g, went) || e != want {
		t.Errorf("Diff(%v, %v) = %v, %v, %d, want %v, %v, %d", v, w, c, g, e, came, went, want)
	}
}

// wantSound asks all calls of a view that is sound.
func wantSound(t *testing.T, v api.View, reached, garbage []int, sum int) {
	t.Helper()
	wantCheck(t, v, api.OK)
	wantReached(t, v, reached, api.OK)
	wantGarbage(t, v, garbage, api.OK)
	wantBytes(t, v, sum, api.OK)
	wantDiff(t, v, v, nil, nil, api.OK)
}

// wantUnsound asks all calls of a view that is not sound.
func wantUnsound(t *testing.T, v api.View) {
	t.Helper()
	wantCheck(t, v, api.ErrForm)
	wantReached(t, v, nil, api.ErrForm)
	wantGarbage(t, v, nil, api.ErrForm)
	wantBytes(t, v, 0, api.ErrForm)
	wantDiff(t, v, v, nil, nil, api.ErrForm)
	wantDiff(t, v, example(), nil, nil, api.ErrForm)
	wantDiff(t, example(), v, nil, nil, api.ErrForm)
}
