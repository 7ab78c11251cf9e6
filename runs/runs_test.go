package runs_test

import (
	"math"
	"slices"
	"testing"

	"heddle/api"
	"heddle/runs"
)

func free(start, n int) api.Run { return api.Run{Start: start, Len: n} }

func used(start, n int) api.Run { return api.Run{Start: start, Len: n, Used: true} }

// build answers so many pages, from which runs of the given lengths were allocated one behind the other.
func build(t *testing.T, pages int, lengths ...int) *runs.Runs {
	t.Helper()
	r, e := runs.New(pages)
	if r == nil || e != api.OK {
		t.Fatalf("New(%d) = %v, %d", pages, r, e)
	}
	at := 0
	for _, n := range lengths {
		wantAlloc(t, r, n, at, api.OK)
		at += n
	}
	return r
}

func wantAlloc(t *testing.T, r *runs.Runs, n, start int, want api.Errno) {
	t.Helper()
	if got, e := r.Alloc(n); got != start || e != want {
		t.Errorf("Alloc(%d) = %d, %d, want %d, %d", n, got, e, start, want)
	}
}

func wantFree(t *testing.T, r *runs.Runs, start, n int, want api.Errno) {
	t.Helper()
	if got, e := r.Free(start); got != n || e != want {
		t.Errorf("Free(%d) = %d, %d, want %d, %d", start, got, e, n, want)
	}
}

func wantOwner(t *testing.T, r *runs.Runs, page int, run api.Run, want api.Errno) {
	t.Helper()
	if got, e := r.Owner(page); got != run || e != want {
		t.Errorf("Owner(%d) = %v, %d, want %v, %d", page, got, e, run, want)
	}
}

// wantAll asks for all runs, and whether Owner and Largest tell the same of them.
func wantAll(t *testing.T, r *runs.Runs, want ...api.Run) {
	t.Helper()
	if got := slices.Collect(r.All()); !slices.Equal(got, want) {
		t.Errorf("All: %v, want %v", got, want)
	}
	longest := 0
	for _, run := range want {
		for page := run.Start; page < run.Start+run.Len; page++ {
			wantOwner(t, r, page, run, api.OK)
		}
		if !run.Used && run.Len > longest {
			longest = run.Len
		}
	}
	if got := r.Largest(); got != longest {
		t.Errorf("Largest = %d, want %d", got, longest)
	}
}

// far answers numbers that are no page of so many, and no pages that these could give.
func far(pages int) []int {
	return []int{math.MinInt, math.MinInt + 1, math.MinInt32, -pages - 1, -pages, -2, -1,
		pages, pages + 1, 2*pages + 1, api.MaxPages, api.MaxPages + 1, 1 << 20, math.MaxInt32, 1 << 32, math.MaxInt - pages, math.MaxInt - 1, math.MaxInt}
}

// The chapter's example.
func TestExample(t *testing.T) {
	r := build(t, 8)
	wantAlloc(t, r, 3, 0, api.OK)
	wantAlloc(t, r, 2, 3, api.OK)
	wantAlloc(t, r, 4, 0, api.ErrFull)
	wantFree(t, r, 0, 3, api.OK)
	wantAll(t, r, free(0, 3), used(3, 2), free(5, 3))
	wantAlloc(t, r, 3, 0, api.OK)
	wantFree(t, r, 3, 2, api.OK)
	wantFree(t, r, 4, 0, api.ErrNone)
	if got := r.Largest(); got != 5 {
		t.Errorf("Largest = %d, want 5", got)
	}
	wantOwner(t, r, 6, free(3, 5), api.OK)
}

// P4.1
func TestNew(t *testing.T) {
	for _, pages := range []int{1, 2, 3, 8, 255, 256, api.MaxPages - 1, api.MaxPages} {
		wantAll(t, build(t, pages), free(0, pages))
	}
	for _, pages := range []int{math.MinInt, math.MinInt32, -api.MaxPages, -2, -1, api.MaxPages + 1, 2 * api.MaxPages, api.MaxArena, math.MaxInt32, 1 << 32, math.MaxInt} {
		if r, e := runs.New(pages); r != nil || e != api.ErrArg {
			t.Errorf("New(%d) = %v, %d, want nil, ErrArg", pages, r, e)
		}
	}
}

// P4.1: without pages every call finds nothing, but the object is there. So is the zero value.
func TestNoPages(t *testing.T) {
	none := build(t, 0)
	for _, r := range []*runs.Runs{none, {}} {
		wantAll(t, r)
		wantAlloc(t, r, 1, 0, api.ErrFull)
		wantAlloc(t, r, 0, 0, api.ErrArg)
		for _, page := range append(far(0), 0, 1) {
			wantFree(t, r, page, 0, api.ErrNone)
			wantOwner(t, r, page, api.Run{}, api.ErrArg)
		}
		wantAll(t, r)
	}
}

// P4.2
func TestAllocOfAll(t *testing.T) {
	for _, pages := range []int{1, 2, 7, api.MaxPages - 1, api.MaxPages} {
		r := build(t, pages)
		wantAlloc(t, r, pages+1, 0, api.ErrFull)
		wantAll(t, r, free(0, pages))
		wantAlloc(t, r, pages, 0, api.OK)
		wantAll(t, r, used(0, pages))
		wantAlloc(t, r, 1, 0, api.ErrFull)
		wantAll(t, r, used(0, pages))
		wantFree(t, r, 0, pages, api.OK)
		wantAll(t, r, free(0, pages))
	}
}

// P4.2: one page after the other, up to the last.
func TestAllocOfSinglePages(t *testing.T) {
	r := build(t, api.MaxPages)
	want := []api.Run{}
	for page := range api.MaxPages {
		wantAlloc(t, r, 1, page, api.OK)
		want = append(want, used(page, 1))
	}
	wantAlloc(t, r, 1, 0, api.ErrFull)
	wantAll(t, r, want...)
}

// P4.2: used runs side by side stay runs of their own.
func TestUsedRunsStayApart(t *testing.T) {
	r := build(t, 6, 1, 2, 3)
	wantAll(t, r, used(0, 1), used(1, 2), used(3, 3))
	wantFree(t, r, 1, 2, api.OK)
	wantAll(t, r, used(0, 1), free(1, 2), used(3, 3))
	wantAlloc(t, r, 1, 1, api.OK)
	wantAlloc(t, r, 1, 2, api.OK)
	wantAll(t, r, used(0, 1), used(1, 1), used(2, 1), used(3, 3))
}

// P4.2, R3: wrong numbers of pages, with pages free and without, and no change by them.
func TestAllocOfWrongNumbers(t *testing.T) {
	half, full := build(t, 8, 3), build(t, 8, 3, 5)
	for _, n := range append(far(8), 0) {
		want := api.ErrFull
		if n < 1 {
			want = api.ErrArg // ahead of ErrFull, where no page is free
		}
		wantAlloc(t, half, n, 0, want)
		wantAlloc(t, full, n, 0, want)
	}
	wantAlloc(t, half, 6, 0, api.ErrFull)
	wantAll(t, half, used(0, 3), free(3, 5))
	wantAll(t, full, used(0, 3), used(3, 5))
}

// P4.2: enough pages are free in all, but not one behind the other.
func TestAllocAmongHoles(t *testing.T) {
	r := build(t, 9, 2, 1, 2, 1, 2, 1)
	for _, start := range []int{0, 3, 6} {
		wantFree(t, r, start, 2, api.OK)
	}
	holes := []api.Run{free(0, 2), used(2, 1), free(3, 2), used(5, 1), free(6, 2), used(8, 1)}
	wantAll(t, r, holes...)
	wantAlloc(t, r, 3, 0, api.ErrFull)
	wantAlloc(t, r, 6, 0, api.ErrFull)
	wantAll(t, r, holes...)
	wantAlloc(t, r, 2, 0, api.OK)
	wantAlloc(t, r, 2, 3, api.OK)
	wantAlloc(t, r, 2, 6, api.OK)
	wantAlloc(t, r, 1, 0, api.ErrFull)
}

// P4.2: the least page counts, neither the tightest run nor the longest, nor the one given back last.
func TestAllocGivesTheLeastPage(t *testing.T) {
	holes := func() *runs.Runs { // free: 1 page at 0, 4 at 2, 2 at 7, 6 at 10
		r := build(t, 16, 1, 1, 4, 1, 2, 1)
		for _, start := range []int{7, 0, 2} {
			r.Free(start)
		}
		wantAll(t, r, free(0, 1), used(1, 1), free(2, 4), used(6, 1), free(7, 2), used(9, 1), free(10, 6))
		return r
	}
	for n, start := range []int{1: 0, 2: 2, 3: 2, 4: 2, 5: 10, 6: 10} {
		if n > 0 {
			wantAlloc(t, holes(), n, start, api.OK)
		}
	}
	r := holes()
	for _, start := range []int{2, 4, 7, 10, 12, 14} {
		wantAlloc(t, r, 2, start, api.OK)
	}
	wantAlloc(t, r, 2, 0, api.ErrFull)
	wantAlloc(t, r, 1, 0, api.OK)
	wantAll(t, r, used(0, 1), used(1, 1), used(2, 2), used(4, 2), used(6, 1), used(7, 2), used(9, 1), used(10, 2), used(12, 2), used(14, 2))
}

// P4.3, P4.4: what is given back joins what is free ahead of it and behind it, and answers its own length alone.
func TestFreeJoins(t *testing.T) {
	all := []api.Run{used(0, 1), used(1, 2), used(3, 3), used(6, 4)}
	cases := []struct {
		what   string
		starts []int
		want   []api.Run
	}{
		{"between two used ones", []int{1}, []api.Run{all[0], free(1, 2), all[2], all[3]}},
		{"behind a free one", []int{1, 3}, []api.Run{all[0], free(1, 5), all[3]}},
		{"ahead of a free one", []int{3, 1}, []api.Run{all[0], free(1, 5), all[3]}},
		{"between two free ones", []int{0, 3, 1}, []api.Run{free(0, 6), all[3]}},
		{"at the first page", []int{0}, []api.Run{free(0, 1), all[1], all[2], all[3]}},
		{"at the first page, ahead of a free one", []int{1, 0}, []api.Run{free(0, 3), all[2], all[3]}},
		{"at the last page", []int{6}, []api.Run{all[0], all[1], all[2], free(6, 4)}},
		{"at the last page, behind a free one", []int{3, 6}, []api.Run{all[0], all[1], free(3, 7)}},
		{"apart from the free ones", []int{0, 6}, []api.Run{free(0, 1), all[1], all[2], free(6, 4)}},
		{"the last that is used", []int{0, 3, 6, 1}, []api.Run{free(0, 10)}},
	}
	lengths := map[int]int{0: 1, 1: 2, 3: 3, 6: 4}
	for _, c := range cases {
		t.Run(c.what, func(t *testing.T) {
			r := build(t, 10, 1, 2, 3, 4)
			for _, start := range c.starts {
				wantFree(t, r, start, lengths[start], api.OK)
			}
			wantAll(t, r, c.want...)
		})
	}
}

// P4.3: pages that were given back apart are given again as one run.
func TestJoinedPagesAreGivenAgain(t *testing.T) {
	r := build(t, 10, 1, 2, 3, 4)
	for _, start := range []int{0, 3, 1} {
		r.Free(start)
	}
	wantAlloc(t, r, 6, 0, api.OK)
	wantAll(t, r, used(0, 6), used(6, 4))
}

// P4.3, R3: no used run begins there.
func TestFreeOfWrongNumbers(t *testing.T) {
	r := build(t, 10, 3, 3)
	wantFree(t, r, 0, 3, api.OK)
	now := []api.Run{free(0, 3), used(3, 3), free(6, 4)}
	for _, start := range append(far(10), 0, 1, 2, 4, 5, 6, 7, 8, 9) {
		wantFree(t, r, start, 0, api.ErrNone)
		wantAll(t, r, now...)
	}
	wantFree(t, r, 3, 3, api.OK)
	wantFree(t, r, 3, 0, api.ErrNone)
	wantAll(t, r, free(0, 10))
}

// P4.3: where a run began that was given back, another one may lie or begin.
func TestFreeOfAnotherRun(t *testing.T) {
	r := build(t, 6, 2, 2)
	r.Free(0)
	r.Free(2)
	wantAlloc(t, r, 3, 0, api.OK)
	wantFree(t, r, 2, 0, api.ErrNone)
	wantAll(t, r, used(0, 3), free(3, 3))
	wantFree(t, r, 0, 3, api.OK)
	wantAll(t, r, free(0, 6))
}

// P4.4
func TestOwner(t *testing.T) {
	r := build(t, 12, 3, 2, 4)
	r.Free(3)
	now := []api.Run{used(0, 3), free(3, 2), used(5, 4), free(9, 3)}
	for _, run := range now {
		for _, page := range []int{run.Start, run.Start + 1, run.Start + run.Len - 1} {
			wantOwner(t, r, page, run, api.OK)
		}
	}
	for _, page := range far(12) {
		wantOwner(t, r, page, api.Run{}, api.ErrArg)
	}
	wantAll(t, r, now...)
}

// P4.4
func TestOwnerAtTheLimit(t *testing.T) {
	r := build(t, api.MaxPages, 1)
	wantOwner(t, r, 0, used(0, 1), api.OK)
	wantOwner(t, r, 1, free(1, api.MaxPages-1), api.OK)
	wantOwner(t, r, api.MaxPages-1, free(1, api.MaxPages-1), api.OK)
	wantOwner(t, r, api.MaxPages, api.Run{}, api.ErrArg)
	wantOwner(t, r, -1, api.Run{}, api.ErrArg)
}

// P4.4: the longest free run counts, wherever it stands, and no used one.
func TestLargest(t *testing.T) {
	want := func(r *runs.Runs, n int) {
		t.Helper()
		if got := r.Largest(); got != n {
			t.Errorf("Largest = %d, want %d", got, n)
		}
	}
	want(build(t, 9), 9)
	want(build(t, 9, 9), 0)
	want(build(t, 9, 4, 4, 1), 0)
	want(build(t, 9, 5), 4)
	r := build(t, 14, 3, 5, 1, 2, 2)
	want(r, 1)
	r.Free(9)
	want(r, 2)
	r.Free(0)
	want(r, 3)
	r.Free(11)
	want(r, 5)
	r.Free(3)
	want(r, 8)
	r.Free(8)
	want(r, 14)
}

// P4.4, R6: an iterator that is left gives no more, and gives all again from the beginning.
func TestAllIsLeftEarly(t *testing.T) {
	r := build(t, 10, 3, 2, 4)
	r.Free(3)
	want := []api.Run{used(0, 3), free(3, 2), used(5, 4), free(9, 1)}
	all := r.All()
	for stop := 1; stop <= len(want); stop++ {
		calls := 0
		all(func(run api.Run) bool {
			if run != want[calls] {
				t.Errorf("run %d is %v, want %v", calls, run, want[calls])
			}
			calls++
			return calls < stop
		})
		if calls != stop {
			t.Errorf("left at run %d, but %d were given", stop, calls)
		}
	}
	for run := range all {
		if run != want[0] {
			t.Errorf("first is %v", run)
		}
		break
	}
	for range 3 {
		if got := slices.Collect(all); !slices.Equal(got, want) {
			t.Errorf("ranged over again: %v, want %v", got, want)
		}
	}
}

// R6: a loop within a loop over the same iterator.
func TestAllWithinAll(t *testing.T) {
	r := build(t, 5, 2, 1)
	want := []api.Run{used(0, 2), used(2, 1), free(3, 2)}
	all := r.All()
	var outer []api.Run
	for run := range all {
		outer = append(outer, run)
		if inner := slices.Collect(all); !slices.Equal(inner, want) {
			t.Errorf("inner loop: %v, want %v", inner, want)
		}
	}
	if !slices.Equal(outer, want) {
		t.Errorf("outer loop: %v, want %v", outer, want)
	}
}

// R6: an iterator tells what there was at the call, whatever happens since.
func TestAllTellsWhatThereWas(t *testing.T) {
	r := build(t, 12)
	steps := []func(){
		func() { r.Alloc(3) }, func() { r.Alloc(2) }, func() { r.Alloc(4) }, func() { r.Free(3) }, func() { r.Alloc(1) },
		func() { r.Free(0) }, func() { r.Free(3) }, func() { r.Alloc(5) }, func() { r.Free(5) }, func() { r.Free(0) }, func() { r.Alloc(12) },
	}
	wants := [][]api.Run{
		{free(0, 12)},
		{used(0, 3), free(3, 9)},
		{used(0, 3), used(3, 2), free(5, 7)},
		{used(0, 3), used(3, 2), used(5, 4), free(9, 3)},
		{used(0, 3), free(3, 2), used(5, 4), free(9, 3)},
		{used(0, 3), used(3, 1), free(4, 1), used(5, 4), free(9, 3)},
		{free(0, 3), used(3, 1), free(4, 1), used(5, 4), free(9, 3)},
		{free(0, 5), used(5, 4), free(9, 3)},
		{used(0, 5), used(5, 4), free(9, 3)},
		{used(0, 5), free(5, 7)},
		{free(0, 12)},
		{used(0, 12)},
	}
	kept := []func(func(api.Run) bool){r.All()}
	for _, step := range steps {
		step()
		kept = append(kept, r.All())
	}
	for i, all := range kept {
		for range 2 {
			if got := slices.Collect(all); !slices.Equal(got, wants[i]) {
				t.Errorf("behind %d steps: %v, want %v", i, got, wants[i])
			}
		}
	}
}

// R6: the object changes in the midst of the loop.
func TestChangesWithinTheLoop(t *testing.T) {
	r := build(t, 9, 2, 3, 1)
	want := []api.Run{used(0, 2), used(2, 3), used(5, 1), free(6, 3)}
	var got []api.Run
	for run := range r.All() {
		got = append(got, run)
		if run.Used {
			wantFree(t, r, run.Start, run.Len, api.OK)
		} else {
			wantAlloc(t, r, 9, 0, api.OK)
		}
	}
	if !slices.Equal(got, want) {
		t.Errorf("ranged over: %v, want %v", got, want)
	}
	wantAll(t, r, used(0, 9))
}

// P4.5, R5
func TestNil(t *testing.T) {
	var r *runs.Runs
	for _, n := range append(far(8), 0, 1, 2) {
		wantAlloc(t, r, n, 0, api.ErrArg)
		wantFree(t, r, n, 0, api.ErrArg)
		wantOwner(t, r, n, api.Run{}, api.ErrArg)
	}
	if got := r.Largest(); got != 0 {
		t.Errorf("Largest of nil: %d", got)
	}
	all := r.All()
	if all == nil {
		t.Fatalf("All of nil is nil")
	}
	for run := range all {
		t.Errorf("All of nil gives %v", run)
	}
}

// R6: an iterator without runs is there too.
func TestAllIsNeverNil(t *testing.T) {
	for _, r := range []*runs.Runs{nil, {}, build(t, 0), build(t, 1)} {
		if r.All() == nil {
			t.Errorf("All of %v is nil", r)
		}
	}
}

// R5: each object has pages of its own.
func TestObjectsAreApart(t *testing.T) {
	a, b := build(t, 8), build(t, 8)
	wantAlloc(t, a, 3, 0, api.OK)
	wantAll(t, b, free(0, 8))
	wantAlloc(t, b, 8, 0, api.OK)
	wantAll(t, a, used(0, 3), free(3, 5))
	wantFree(t, a, 0, 3, api.OK)
	wantAll(t, b, used(0, 8))
}
