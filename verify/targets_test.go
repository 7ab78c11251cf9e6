package verify_test

import (
	"math"
	"slices"
	"testing"

	"heddle/api"
	"heddle/verify"
)

func wantTargets(t *testing.T, what string, want []int, list ...api.Instr) {
	t.Helper()
	if got := verify.Targets(api.Func{Code: list}); !slices.Equal(got, want) {
		t.Errorf("Targets, %s: %v, want %v", what, got, want)
	}
}

// P19.2: where functions go on, rising, each once.
func TestTargets(t *testing.T) {
	wantTargets(t, "nothing", nil)
	wantTargets(t, "no jumps", nil, api.Instr{Op: api.OpInt, A: 1}, api.Instr{Op: api.OpYield}, halt)
	wantTargets(t, "one of each", []int{3, 5, 9}, api.Instr{Op: api.OpJump, A: 5}, api.Instr{Op: api.OpIf, A: 7, B: 3}, api.Instr{Op: api.OpNext, A: 1, B: 2, C: 4, D: 9})
	wantTargets(t, "falling", []int{0, 1, 2, 3}, api.Instr{Op: api.OpJump, A: 3}, api.Instr{Op: api.OpJump, A: 2}, api.Instr{Op: api.OpJump, A: 1}, api.Instr{Op: api.OpJump, A: 0})
	wantTargets(t, "the same again", []int{0, 4}, api.Instr{Op: api.OpJump, A: 4}, api.Instr{Op: api.OpIf, B: 0}, api.Instr{Op: api.OpNext, D: 4}, api.Instr{Op: api.OpJump}, api.Instr{Op: api.OpIf, A: 1, B: 4})
	wantTargets(t, "itself", []int{0}, api.Instr{Op: api.OpJump})
}

// P19.2: of any function: numbers of nothing, and fields that are not named.
func TestTargetsOfAnyFunction(t *testing.T) {
	wantTargets(t, "numbers at their ends", []int{math.MinInt, -1, 0, 5000, math.MaxInt},
		api.Instr{Op: api.OpJump, A: math.MaxInt}, api.Instr{Op: api.OpIf, B: math.MinInt}, api.Instr{Op: api.OpNext, D: -1}, api.Instr{Op: api.OpJump, A: 5000}, api.Instr{Op: api.OpNext, A: 3, B: 4, C: 5}, api.Instr{Op: api.OpIf, B: -1})
	wantTargets(t, "fields that are not named", []int{2}, api.Instr{Op: api.OpJump, A: 2, B: 3, C: 4, D: 5, N: 6, Args: []int{7}})
	for op := -1; op <= opCount+1; op++ {
		var want []int
		switch op {
		case api.OpJump:
			want = []int{1}
		case api.OpIf:
			want = []int{2}
		case api.OpNext:
			want = []int{4}
		}
		wantTargets(t, "one operation", want, api.Instr{Op: op, A: 1, B: 2, C: 3, D: 4, N: 5, Args: []int{6}})
	}
	many := make([]api.Instr, 3*api.MaxCode)
	var want []int
	for i := range many {
		many[i] = api.Instr{Op: api.OpJump, A: (i * 7) % len(many)}
		want = append(want, i)
	}
	wantTargets(t, "more than a function may have", want, many...)
}

// P19.2: which operations allocate.
func TestAllocates(t *testing.T) {
	list := []int{api.OpStr, api.OpConcat, api.OpSlice, api.OpNew, api.OpBox, api.OpMake, api.OpSet, api.OpIter}
	for op := -100; op <= 300; op++ {
		if got := verify.Allocates(op); got != slices.Contains(list, op) {
			t.Errorf("Allocates(%d) = %v", op, got)
		}
	}
	for _, op := range []int{math.MinInt, math.MaxInt, limit, limit + 1, 1<<32 + api.OpStr, -api.OpNew} {
		if verify.Allocates(op) {
			t.Errorf("Allocates(%d)", op)
		}
	}
}
