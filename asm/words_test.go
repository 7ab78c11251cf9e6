package asm_test

import (
	"math"
	"strings"
	"testing"

	"heddle/api"
	"heddle/asm"
)

// P20.3: each operation's word, there and back.
func TestWords(t *testing.T) {
	for op := 1; op <= opCount; op++ {
		if w, e := asm.Word(op); w != told[op].word || e != api.OK {
			t.Errorf("Word(%d) = %q, %d, want %s", op, w, e, told[op].word)
		}
		if n, e := asm.Op(told[op].word); n != op || e != api.OK {
			t.Errorf("Op(%s) = %d, %d, want %d", told[op].word, n, e, op)
		}
	}
}

// P20.3: numbers that are no operation.
func TestNoWord(t *testing.T) {
	for _, op := range []int{math.MinInt, -41, -1, 0, 42, 43, 256 + 5, 1<<32 + 5, math.MaxInt} {
		if w, e := asm.Word(op); w != "" || e != api.ErrArg {
			t.Errorf("Word(%d) = %q, %d", op, w, e)
		}
	}
}

// P20.3: words of no operation.
func TestNoOp(t *testing.T) {
	words := []string{"", " ", "\n", "type", "func", "ptr", "map", "iface", "struct", "array", "program", "HALT", "Halt", "hal", "halt ", " halt", "halt\n", "halts", "int float", "\xff", "0", "1", "'int'", strings.Repeat("halt", 1<<20)}
	for _, word := range words {
		if n, e := asm.Op(word); n != 0 || e != api.ErrNone {
			t.Errorf("Op(%q) = %d, %d", word[:min(len(word), 40)], n, e)
		}
	}
	for op := 1; op <= opCount; op++ {
		for _, word := range []string{told[op].word + "x", told[op].word[1:], told[op].word + " ", strings.ToUpper(told[op].word)} {
			if n, e := asm.Op(word); e != api.ErrNone || n != 0 {
				t.Errorf("Op(%q) = %d, %d", word, n, e)
			}
		}
	}
}
