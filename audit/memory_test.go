package audit_test

import (
	"reflect"
	"slices"
	"testing"

	"heddle/api"
	"heddle/audit"
)

// withRoom answers a list with spare room behind it.
func withRoom[T any](l []T, spare T) []T {
	return append(slices.Clone(l), spare, spare, spare)[:len(l)]
}

// roomy answers a view all of whose lists have spare room with something in it that is not sound.
func roomy(v api.View) api.View {
	v.Objects = withRoom(v.Objects, object(-9, -9, -9))
	for i := range v.Objects {
		v.Objects[i].Refs = withRoom(v.Objects[i].Refs, -8)
	}
	v.Free, v.Roots = withRoom(v.Free, run(-7, -7)), withRoom(v.Roots, -6)
	return v
}

// whole answers a copy of a view that has the spare room of its lists in them.
func whole(v api.View) api.View {
	v.Objects = slices.Clone(v.Objects[:cap(v.Objects)])
	for i := range v.Objects {
		refs := v.Objects[i].Refs
		v.Objects[i].Refs = slices.Clone(refs[:cap(refs)])
	}
	v.Free, v.Roots = slices.Clone(v.Free[:cap(v.Free)]), slices.Clone(v.Roots[:cap(v.Roots)])
	return v
}

// R4: what is handed in stays as it is, spare room included, sound or not; and what lies in spare room is not read.
func TestArgumentsStay(t *testing.T) {
	wrong := sample()
	wrong.Objects[4].Refs[0] = 8
	falling := sample()
	slices.Reverse(falling.Objects)
	for _, v := range []api.View{{}, example(), sample(), wrong, falling} {
		given, other := roomy(v), roomy(sample())
		before, otherBefore := whole(given), whole(other)
		wantModel(t, given)
		audit.Diff(given, other)
		audit.Diff(other, given)
		audit.Diff(given, given)
		if !reflect.DeepEqual(whole(given), before) || !reflect.DeepEqual(whole(other), otherBefore) {
			t.Fatalf("what was handed in has changed: %v, %v", given, other)
		}
	}
}

// overwrite fills a list, spare room included.
func overwrite(l []int) {
	l = l[:cap(l)]
	for i := range l {
		l[i] = -5
	}
}

// R4: lists that are answered share nothing with what was handed in, with other answers, or with one another.
func TestAnswersAreNew(t *testing.T) {
	v, w := sample(), sample()
	w.Objects[0].Tag, w.Objects[4].Size = 9, 9
	v.Roots = list(256, 280, 768, 1792)
	before := whole(v)
	answers := func() [][]int {
		reached, _ := audit.Reached(v)
		garbage, _ := audit.Garbage(v)
		came, went, _ := audit.Diff(v, w)
		return [][]int{reached, garbage, came, went}
	}
	want := [][]int{{256, 280, 768, 1792}, {288}, {256, 1792}, {256, 1792}}
	for i := range want {
		one, other := answers(), answers()
		overwrite(one[i])
		one[i] = want[i]
		if !reflect.DeepEqual(one, want) || !reflect.DeepEqual(other, want) || !reflect.DeepEqual(whole(v), before) {
			t.Errorf("list %d is not apart: %v, %v, %v", i, one, other, v)
		}
	}
}

// R5: nothing is kept from call to call.
func TestNothingIsKept(t *testing.T) {
	for range 3 {
		v := sample()
		wantSound(t, v, list(256, 280, 768, 1792), list(288), 514)
		v.Objects[0].Tag = -1
		wantUnsound(t, v)
		v.Objects[0].Tag = 1
		v.Objects[4].Refs, v.Roots = nil, list(1792)
		wantSound(t, v, list(1792), list(256, 280, 288, 768), 514)
		wantSound(t, api.View{}, nil, nil, 0)
	}
}
