package asm_test

import (
	"strings"
	"testing"

	"heddle/api"
	"heddle/asm"
	"heddle/code"
	"heddle/progs"
)

// P2, P20.1, P20.2: drawn programs, there and back.
func TestDrawnPrograms(t *testing.T) {
	d := progs.Draw(20)
	for range 5000 {
		p := d.Program()
		s := textOf(p)
		wantBoth(t, p, s)
		if q, _, _ := asm.Parse(s); !code.Same(p, q) {
			t.Errorf("%v came back as %v", p, q)
		}
		if t.Failed() {
			return
		}
	}
}

// P20.1: drawn programs with one number changed, which can be written or not as chapter 18 says.
func TestDrawnNumbers(t *testing.T) {
	d := progs.Draw(21)
	count := map[api.Errno]int{}
	for range 10000 {
		p := d.Program()
		list := progs.Numbers(&p)
		if len(list) == 0 {
			continue
		}
		n := list[d.Below(len(list))]
		*n = []int{*n + 1, *n - 1, d.Number(), -d.Number(), limit + d.Number(), 0}[d.Below(6)]
		_, e := code.Encode(p)
		count[e]++
		if e == api.OK {
			wantBoth(t, p, textOf(p))
		} else {
			wantNoText(t, "a changed number", p, e)
		}
		if t.Failed() {
			return
		}
	}
	if count[api.OK] < 1000 || count[api.ErrForm] < 1000 {
		t.Errorf("the programs are too much alike: %v", count)
	}
}

// P20.2, held against the model: texts of drawn programs with something changed.
func TestDrawnTexts(t *testing.T) {
	d := progs.Draw(22)
	count := map[api.Errno]int{}
	for range 20000 {
		s := textOf(d.Program())
		for range 1 + d.Below(2) {
			s = faulty(&d, s)
		}
		count[hold(t, s)]++
		if t.Failed() {
			return
		}
	}
	if count[api.OK] < 1000 || count[api.ErrText] < 1000 {
		t.Errorf("the texts are too much alike: %v", count)
	}
}

// faulty answers s with one change, of bytes, words or lines.
func faulty(d *progs.Draw, s string) string {
	between := []string{"", " ", "\n"}[d.Below(3)]
	parts := strings.SplitAfter(s, between)
	if len(parts) == 0 {
		parts = []string{""}
	}
	at := d.Below(len(parts))
	some := []string{"", " ", "\n", "0", "1", "9", "'", "\\", "x", "type", "str 'x'\n", "str", "global", "func 0 0\n", "halt\n", "2147483648", "\\41", "\\0a", "\r", "\xff"}[d.Below(20)]
	switch d.Below(5) {
	case 0:
		parts[at] = some
	case 1:
		parts[at] += some
	case 2:
		parts[at] = some + parts[at]
	case 3:
		// Two parts change places.
		other := d.Below(len(parts))
		parts[at], parts[other] = parts[other], parts[at]
	case 4:
		parts = append(parts[:at], parts[min(at+1, len(parts)):]...)
	}
	return strings.Join(parts, "")
}
