package verify_test

import (
	"reflect"
	"slices"
	"testing"

	"heddle/api"
	"heddle/progs"
	"heddle/verify"
)

// R4: what is handed in stays as it is, spare room included, whether it is sound or not; and what lies in spare room is not read.
func TestArgumentsStay(t *testing.T) {
	two := loops(slices.Concat([]api.Instr{{Op: api.OpIf, A: aFlag, B: 1}}, oneLoop(1), []api.Instr{{Op: api.OpIf, A: aFlag, B: 1}, {Op: api.OpJump}})...)
	faulty := full()
	faulty.Funcs[1].Code[0].A = 9
	unwritten := full()
	unwritten.Funcs[1].Code[0].B = 9
	for _, p := range []api.Prog{{}, full(), two, faulty, unwritten} {
		given := progs.Roomy(p)
		before := progs.Whole(given)
		hold(t, given)
		for _, f := range given.Funcs {
			verify.Targets(f)
		}
		if !reflect.DeepEqual(progs.Whole(given), before) {
			t.Fatalf("what was handed in has changed: %v", given)
		}
	}
}

// R4: the numbers that are answered are a list of their own, spare room included.
func TestTargetsAreNew(t *testing.T) {
	f := api.Func{Code: []api.Instr{{Op: api.OpJump, A: 7}, {Op: api.OpIf, B: 3}, {Op: api.OpJump, A: 7}, {Op: api.OpNext, D: 5}}}
	one, two := verify.Targets(f), verify.Targets(f)
	whole := one[:cap(one)]
	for i := range whole {
		whole[i] = 0xdead
	}
	if want := []int{3, 5, 7}; !slices.Equal(two, want) || !slices.Equal(verify.Targets(f), want) {
		t.Errorf("one list changed with the other: %v", two)
	}
	if f.Code[0].A != 7 || f.Code[1].B != 3 || f.Code[3].D != 5 {
		t.Errorf("the function changed with the list: %v", f)
	}
}

// R5: nothing is kept from call to call.
func TestNothingIsKept(t *testing.T) {
	p := full()
	for range 3 {
		wantPlain(t, "a sound one", p, true)
		p.Funcs[0].Code[0].A = tStr
		wantFault(t, "the same with a fault", p, 1, 1)
		p.Funcs[0].Code[0].A = tInt
	}
}
