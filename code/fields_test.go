package code_test

import (
	"math"
	"testing"

	"heddle/api"
	"heddle/code"
)

// P18.1: each operation's letters.
func TestFields(t *testing.T) {
	count := 0
	for _, row := range told {
		for _, op := range row.ops {
			count++
			if s, e := code.Fields(op); s != row.letters || e != api.OK {
				t.Errorf("Fields(%d) = %q, %d, want %q", op, s, e, row.letters)
			}
		}
	}
	if count != opCount {
		t.Errorf("%d operations were asked", count)
	}
}

// P18.1: operations that are none.
func TestFieldsOfNone(t *testing.T) {
	for _, op := range []int{math.MinInt, -41, -1, 0, 42, 43, 64, 65, 128, 256 + 5, 1<<32 + api.OpCall, 1 << 62, math.MaxInt} {
		if s, e := code.Fields(op); s != "" || e != api.ErrArg {
			t.Errorf("Fields(%d) = %q, %d, want nothing, ErrArg", op, s, e)
		}
	}
}
