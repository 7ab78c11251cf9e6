package code_test

import (
	"math"
	"slices"
	"testing"

	"heddle/api"
	"heddle/code"
	"heddle/progs"
)

// P18.3, held against the model, at all lists of bytes of a few that matter, up to a length. Where more bytes change nothing, only some are laid behind.
func TestAllShortBytes(t *testing.T) {
	count := map[api.Errno]int{}
	few := []byte{0, 1, 2, 5, 8, 35, 40, 42, 0x80}
	var grow func(b []byte)
	grow = func(b []byte) {
		early, e := holdDecode(t, b)
		count[e]++
		if t.Failed() || len(b) == 7 {
			return
		}
		if !early {
			holdDecode(t, append(b, 0, 1))
			return
		}
		for _, c := range few {
			grow(append(b, c))
		}
	}
	grow(make([]byte, 0, 16))
	if count[api.OK] < 100 || count[api.ErrText] < 1000 {
		t.Errorf("the short lists are too much alike: %v", count)
	}
}

// P2, P18.2 to P18.4: drawn programs, there and back.
func TestDrawnPrograms(t *testing.T) {
	d := progs.Draw(18)
	for range 20000 {
		p := d.Program()
		b := encoded(t, p)
		if want, at, _, e := decode(b); !alike(p, want) || e != api.OK {
			t.Fatalf("%v has the bytes % x, which are %v, %d at %d", p, b, want, e, at)
		}
		q, at, e := code.Decode(b)
		if !alike(p, q) || !code.Same(p, q) || at != 0 || e != api.OK {
			t.Fatalf("%v came back as %v, %d, %d", p, q, at, e)
		}
	}
}

// P18.2, P18.4: drawn programs with one number changed, which may no longer be such as can be written.
func TestDrawnNumbers(t *testing.T) {
	d := progs.Draw(19)
	count := map[api.Errno]int{}
	for range 20000 {
		p := d.Program()
		q := progs.Copy(p)
		list := progs.Numbers(&q)
		if len(list) == 0 {
			continue
		}
		n := list[d.Below(len(list))]
		before := *n
		*n = []int{before + 1, before - 1, d.Number(), -d.Number(), limit + d.Number(), 0, math.MinInt}[d.Below(7)]
		if code.Same(p, q) != (before == *n) {
			t.Fatalf("Same(%v, %v) is %v", p, q, before != *n)
		}
		b, e := code.Encode(q)
		count[e]++
		if e == api.OK {
			wantDecode(t, b, q)
			continue
		}
		// The one number that differs is at fault, or others that its Op or its Kind does not name.
		if e != api.ErrForm || len(b) != 0 || canWrite(q) {
			t.Fatalf("Encode(%v) = % x, %d", q, b, e)
		}
	}
	if count[api.OK] < 1000 || count[api.ErrForm] < 1000 {
		t.Errorf("the programs are too much alike: %v", count)
	}
}

// canWrite tells by the chapter's words whether a program can be written.
func canWrite(p api.Prog) bool {
	for _, n := range progs.Numbers(&p) {
		if *n < 0 || *n > limit {
			return false
		}
	}
	for _, one := range p.Types {
		if one.Kind < 1 || one.Kind > kindsEnd {
			return false
		}
		elem := slices.Contains([]int{api.KPtr, api.KMap, api.KArray, api.KIter}, one.Kind)
		if one.Elem != 0 && !elem || one.Key != 0 && one.Kind != api.KMap || one.Len != 0 && one.Kind != api.KArray || len(one.Fields) != 0 && one.Kind != api.KStruct {
			return false
		}
	}
	for _, f := range p.Funcs {
		for _, in := range f.Code {
			if in.Op < 1 || in.Op > opCount {
				return false
			}
			rest := in
			for _, letter := range lettersOf(in.Op) {
				rest = progs.WithField(rest, letter, 0)
				if letter == 'G' {
					rest.Args = nil
				}
			}
			if rest.A != 0 || rest.B != 0 || rest.C != 0 || rest.D != 0 || rest.N != 0 || len(rest.Args) != 0 {
				return false
			}
		}
	}
	return true
}

// P18.3, held against the model: bytes of drawn programs with some of them changed, taken out, put in, or cut off.
func TestDrawnBytes(t *testing.T) {
	d := progs.Draw(20)
	count := map[api.Errno]int{}
	for range 40000 {
		b := encoded(t, d.Program())
		for range 1 + d.Below(3) {
			b = faulty(&d, b)
		}
		_, e := holdDecode(t, b)
		count[e]++
		if t.Failed() {
			return
		}
	}
	if count[api.OK] < 1000 || count[api.ErrText] < 1000 {
		t.Errorf("the bytes are too much alike: %v", count)
	}
}

// faulty answers b with one change.
func faulty(d *progs.Draw, b []byte) []byte {
	at := d.Below(len(b) + 1)
	some := [][]byte{{0}, {1}, {byte(d.Below(43))}, {byte(d.Next())}, {0x80}, most, above, longest, {0x80, 0}}[d.Below(9)]
	switch d.Below(4) {
	case 0:
		return slices.Clone(b[:at])
	case 1:
		return slices.Insert(slices.Clone(b), at, some...)
	case 2:
		return slices.Delete(slices.Clone(b), at, min(at+1, len(b)))
	}
	return slices.Replace(slices.Clone(b), at, min(at+1, len(b)), some...)
}
