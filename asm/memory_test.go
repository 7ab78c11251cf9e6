package asm_test

import (
	"reflect"
	"strings"
	"testing"

	"heddle/api"
	"heddle/asm"
	"heddle/progs"
)

// R4: what is handed in stays as it is, spare room included, whether it can be written or not; and what lies in spare room is not read.
func TestArgumentsStay(t *testing.T) {
	wrong := sample()
	wrong.Funcs[0].Code[3].C = 1
	large := sample()
	large.Strs[1] = strings.Repeat("x", api.MaxText)
	for _, p := range []api.Prog{{}, sample(), wrong, large} {
		given := progs.Roomy(p)
		before := progs.Whole(given)
		s, e := asm.Text(given)
		if want, wantE := asm.Text(p); s != want || e != wantE {
			t.Errorf("with spare room the text is %q, %d", s, e)
		}
		if !reflect.DeepEqual(progs.Whole(given), before) {
			t.Fatalf("what was handed in has changed: %v", given)
		}
	}
}

// R4: a program that is answered is memory of its own, none of whose lists share any, spare room included.
func TestParsedProgramsAreApart(t *testing.T) {
	s := sampleText() + "call 1 2 3 4 5\ncall 6 7 8\nfunc 0 0 1 2 3\ncall 1 2 3 4 5 6 7\n"
	one, _, _ := asm.Parse(s)
	other, _, _ := asm.Parse(s)
	want := progs.Copy(other)
	if !progs.Apart(one) {
		t.Errorf("two lists of an answer share memory: %v", one)
	}
	for i := range one.Strs[:cap(one.Strs)] {
		one.Strs[:cap(one.Strs)][i] = "spoilt"
	}
	if !alike(other, want) || textOf(other) != s {
		t.Errorf("one answer changed with the other: %v", other)
	}
}

// R5: nothing is kept from call to call.
func TestNothingIsKept(t *testing.T) {
	for range 3 {
		wantFault(t, "func 0 0\nint 0 05\n", 2, api.ErrText)
		wantBoth(t, sample(), sampleText())
		wantFault(t, "halt\n", 1, api.ErrText)
		wantFault(t, "type int\n"+strings.Repeat("x", api.MaxText), 0, api.ErrLarge)
		wantNoText(t, "no Op", within(api.Instr{}), api.ErrForm)
		wantBoth(t, api.Prog{}, "")
	}
}
