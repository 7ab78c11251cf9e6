package runs_test

import (
	"math/rand"
	"slices"
	"testing"

	"heddle/api"
	"heddle/runs"
)

// model is what the chapter says, kept page by page: 0 for a free one, else the number of its run.
type model struct {
	pages []int
	made  int
}

func (m *model) alloc(n int) (int, api.Errno) {
	if n < 1 {
		return 0, api.ErrArg
	}
	for start := 0; start+n <= len(m.pages); start++ {
		if !slices.ContainsFunc(m.pages[start:start+n], func(p int) bool { return p != 0 }) {
			m.made++
			for i := range n {
				m.pages[start+i] = m.made
			}
			return start, api.OK
		}
	}
	return 0, api.ErrFull
}

func (m *model) free(start int) (int, api.Errno) {
	if start < 0 || start >= len(m.pages) || m.pages[start] == 0 || start > 0 && m.pages[start-1] == m.pages[start] {
		return 0, api.ErrNone
	}
	run, n := m.pages[start], 0
	for i, p := range m.pages {
		if p == run {
			m.pages[i] = 0
			n++
		}
	}
	return n, api.OK
}

func (m *model) all() []api.Run {
	var out []api.Run
	for i, p := range m.pages {
		if i > 0 && m.pages[i-1] == p {
			out[len(out)-1].Len++
		} else {
			out = append(out, api.Run{Start: i, Len: 1, Used: p != 0})
		}
	}
	return out
}

// P4.1 to P4.4, R3: drawn calls, wrong ones among them, answer as the model does, and leave what it leaves.
func TestDrawnCalls(t *testing.T) {
	draw := rand.New(rand.NewSource(4))
	for round := range 300 {
		pages := round % 25
		r, m := build(t, pages), &model{pages: make([]int, pages)}
		for range 60 {
			if draw.Intn(2) == 0 {
				n := draw.Intn(pages/3+3) - 1
				start, want := m.alloc(n)
				wantAlloc(t, r, n, start, want)
			} else {
				start := draw.Intn(pages+3) - 1
				n, want := m.free(start)
				wantFree(t, r, start, n, want)
			}
			wantAll(t, r, m.all()...)
		}
		if t.Failed() {
			t.Fatalf("round %d, %d pages", round, pages)
		}
	}
}

// P4.2, P4.3: every way to call three times with each number, upon four pages of which some are used.
func TestAllShortCalls(t *testing.T) {
	var try func(calls []int)
	try = func(calls []int) {
		r, m := build(t, 4, 1, 1), &model{pages: []int{1, 2, 0, 0}, made: 2}
		for _, c := range calls {
			if c < 6 { // Alloc of 0 to 5
				start, want := m.alloc(c)
				wantAlloc(t, r, c, start, want)
			} else { // Free of -1 to 4
				n, want := m.free(c - 7)
				wantFree(t, r, c-7, n, want)
			}
		}
		wantAll(t, r, m.all()...)
		if t.Failed() {
			t.Fatalf("calls %v", calls)
		}
		for c := 0; c < 12 && len(calls) < 3; c++ {
			try(append(slices.Clone(calls), c))
		}
	}
	try(nil)
}

// P4.2, P4.3: as many pages as there can be.
func TestDrawnCallsAtTheLimit(t *testing.T) {
	draw := rand.New(rand.NewSource(5))
	r, m := build(t, api.MaxPages), &model{pages: make([]int, api.MaxPages)}
	var starts []int
	for i := range 3000 {
		if draw.Intn(3) > 0 || len(starts) == 0 {
			n := draw.Intn(12) + 1
			start, want := m.alloc(n)
			wantAlloc(t, r, n, start, want)
			if want == api.OK {
				starts = append(starts, start)
			}
		} else {
			k := draw.Intn(len(starts))
			n, want := m.free(starts[k])
			wantFree(t, r, starts[k], n, want)
			starts = slices.Delete(starts, k, k+1)
		}
		if i%100 == 0 {
			wantAll(t, r, m.all()...)
		}
	}
	for _, start := range starts {
		r.Free(start)
	}
	wantAll(t, r, free(0, api.MaxPages))
}

// R5, R7: what a call answers hangs on the object's calls alone.
func TestSameCallsSameAnswers(t *testing.T) {
	told := func() []api.Run {
		draw := rand.New(rand.NewSource(6))
		r, _ := runs.New(40)
		for range 100 {
			r.Alloc(draw.Intn(5))
			r.Free(draw.Intn(40))
		}
		return slices.Collect(r.All())
	}
	if a, b := told(), told(); !slices.Equal(a, b) {
		t.Errorf("%v, then %v", a, b)
	}
}
