package walk_test

import (
	"slices"
	"testing"

	"heddle/api"
	"heddle/walk"
)

const (
	anInt = iota
	aStr
	aPair
	aPtr
	aMap
	pairs
	anIter
	anIface
	aBool
	aFloat
	both
)

func table() []api.Type {
	return []api.Type{
		anInt:   {Kind: api.KInt},
		aStr:    {Kind: api.KStr},
		aPair:   {Kind: api.KStruct, Fields: []int{anInt, aStr}},
		aPtr:    {Kind: api.KPtr, Elem: aPtr},
		aMap:    {Kind: api.KMap, Key: aPair, Elem: aPtr},
		pairs:   {Kind: api.KArray, Elem: aPair, Len: 2},
		anIter:  {Kind: api.KIter, Elem: aMap},
		anIface: {Kind: api.KIface},
		aBool:   {Kind: api.KBool},
		aFloat:  {Kind: api.KFloat},
		both:    {Kind: api.KStruct, Fields: []int{aMap, anIface, pairs, aPtr}},
	}
}

func TestParts(t *testing.T) {
	for typ, want := range map[int][]int{
		anInt: nil, aStr: nil, aPtr: nil, aMap: nil, anIter: nil, anIface: nil, aBool: nil, aFloat: nil,
		aPair: {anInt, aStr}, pairs: {aPair, aPair}, both: {aMap, anIface, pairs, aPtr},
	} {
		if got := walk.Parts(table()[typ]); !slices.Equal(got, want) {
			t.Errorf("Parts of type %d: %v, want %v", typ, got, want)
		}
	}
}

func TestKinds(t *testing.T) {
	for typ, want := range map[int][]int{
		anInt: {api.KInt}, aStr: {api.KStr}, aPtr: {api.KPtr}, aMap: {api.KMap}, anIter: {api.KIter}, anIface: {api.KIface}, aBool: {api.KBool}, aFloat: {api.KFloat},
		aPair: {api.KInt, api.KStr}, pairs: {api.KInt, api.KStr, api.KInt, api.KStr},
		both: {api.KMap, api.KIface, api.KInt, api.KStr, api.KInt, api.KStr, api.KPtr},
	} {
		if got := walk.Kinds(table(), typ); !slices.Equal(got, want) {
			t.Errorf("Kinds of type %d: %v, want %v", typ, got, want)
		}
	}
}

func TestNames(t *testing.T) {
	num := func(n uint64) api.Cell { return api.Cell{N: n} }
	box := func(typ int, v ...api.Cell) api.Cell { return api.Cell{T: typ + 1, Box: v} }
	inner := box(both, num(3), box(aMap, num(4)), num(97), api.Cell{S: "x"}, num(98), api.Cell{}, num(5))
	for _, one := range []struct {
		typ  int
		v    []api.Cell
		want []int
	}{
		{anInt, []api.Cell{num(99)}, nil},
		{aFloat, []api.Cell{num(99)}, nil},
		{aBool, []api.Cell{num(1)}, nil},
		{aStr, []api.Cell{{S: "99"}}, nil},
		{aPtr, []api.Cell{num(7)}, []int{7}},
		{aMap, []api.Cell{num(0)}, []int{0}},
		{anIter, []api.Cell{num(1<<31 - 1)}, []int{1<<31 - 1}},
		{anIface, []api.Cell{{}}, nil},
		{anIface, []api.Cell{box(anInt, num(99))}, nil},
		{both, []api.Cell{num(1), {}, num(99), {}, num(98), {}, num(2)}, []int{1, 2}},
		{both, []api.Cell{num(1), inner, num(99), {}, num(98), {}, num(2)}, []int{1, 3, 4, 5, 2}},
	} {
		if got := walk.Names(table(), one.typ, one.v); !slices.Equal(got, one.want) {
			t.Errorf("Names of type %d: %v, want %v", one.typ, got, one.want)
		}
	}
}
