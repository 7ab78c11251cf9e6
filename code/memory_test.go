package code_test

import (
	"bytes"
	"reflect"
	"slices"
	"testing"

	"heddle/api"
	"heddle/code"
	"heddle/progs"
)

// R4: what is handed in stays as it is, spare room included, and is not kept.
func TestArgumentsStay(t *testing.T) {
	for _, p := range some() {
		given := progs.Roomy(p)
		before := progs.Whole(given)
		b, _ := code.Encode(given)
		code.Same(given, p)
		code.Same(p, given)
		if !reflect.DeepEqual(progs.Whole(given), before) {
			t.Fatalf("what was handed in has changed: %v", given)
		}
		want := slices.Clone(b)
		for _, n := range progs.Numbers(&given) {
			*n = 55
		}
		if !bytes.Equal(b, want) {
			t.Fatal("the bytes have changed with the program")
		}
		withSpare := append(slices.Clone(b), 0xee, 0xee, 0xee)
		handed := withSpare[:len(b)]
		q, _, _ := code.Decode(handed)
		if !bytes.Equal(withSpare, join(b, []byte{0xee, 0xee, 0xee})) {
			t.Fatal("the bytes that were handed in have changed")
		}
		for i := range withSpare {
			withSpare[i] = 0xdd
		}
		if !alike(q, p) {
			t.Fatalf("the program has changed with the bytes: %v", q)
		}
	}
}

// R4: bytes at which Decode finds a fault stay as they are too.
func TestFaultyBytesStay(t *testing.T) {
	b := sampleBytes()
	for n := range b {
		code.Decode(b[:n])
		if !bytes.Equal(b, sampleBytes()) {
			t.Fatalf("the bytes have changed at %d", n)
		}
	}
}

// lists answers, for each list that a program has, a call that spoils it, spare room included, and leaves the lists of its entries.
func lists(p api.Prog) (calls []func()) {
	spoilt := func(list []int) {
		calls = append(calls, func() { spoil(list, 0xdead) })
	}
	spoilt(p.Globals)
	for _, one := range p.Types {
		spoilt(one.Fields)
	}
	for _, f := range p.Funcs {
		spoilt(f.Locals)
		calls = append(calls, func() { spoilEach(f.Code, func(in *api.Instr) { in.Op = 0xdead }) })
		for _, in := range f.Code {
			spoilt(in.Args)
		}
	}
	return append(calls,
		func() { spoil(p.Strs, "spoilt") },
		func() { spoilEach(p.Types, func(one *api.Type) { one.Kind = 0xdead }) },
		func() { spoilEach(p.Funcs, func(f *api.Func) { f.Params = 0xdead }) })
}

func spoilEach[T any](list []T, change func(one *T)) {
	list = list[:cap(list)]
	for i := range list {
		change(&list[i])
	}
}

// spoil gives all of a list, spare room too, another value.
func spoil[T any](list []T, value T) {
	list = list[:cap(list)]
	for i := range list {
		list[i] = value
	}
}

// R4: no two lists of a program that is answered share memory, spare room included: what one of them loses, no other one does.
func TestDecodedListsAreApart(t *testing.T) {
	p := api.Prog{
		Types:   []api.Type{{Kind: api.KStruct, Fields: []int{1, 2, 3}}, {Kind: api.KStruct, Fields: []int{4}}, {Kind: api.KStruct, Fields: []int{5, 6, 7, 8, 9}}},
		Strs:    []string{"a", "b", "c"},
		Globals: []int{1, 2, 3},
		Funcs: []api.Func{
			{Locals: []int{1, 2, 3}, Code: []api.Instr{{Op: api.OpCall, Args: []int{1, 2, 3}}, {Op: api.OpCall, Args: []int{4}}, {Op: api.OpCall, Args: []int{5, 6, 7, 8, 9}}}},
			{Locals: []int{4, 5, 6, 7, 8}, Code: []api.Instr{{Op: api.OpCall, Args: []int{1}}}},
			{},
		},
	}
	b := encoded(t, p)
	q, _, _ := code.Decode(b)
	count := len(lists(q))
	for i := range count {
		one, _, _ := code.Decode(b)
		lists(one)[i]()
		changed := 0
		for j, told := range parts(one) {
			if !reflect.DeepEqual(told, parts(p)[j]) {
				changed++
			}
		}
		if changed > 1 {
			t.Errorf("with list %d of %d, %d lists changed: %v", i, count, changed, one)
		}
		if !alike(q, p) {
			t.Fatalf("one answer changed with the other: %v", q)
		}
	}
}

// parts answers what each list of a program has by itself, without what its entries' lists have.
func parts(p api.Prog) (all [][]any) {
	var kinds, strs, heads []any
	for _, one := range p.Types {
		kinds = append(kinds, one.Kind)
	}
	for _, s := range p.Strs {
		strs = append(strs, s)
	}
	for _, f := range p.Funcs {
		heads = append(heads, f.Params)
	}
	all = append(all, kinds, strs, heads, anys(p.Globals))
	for i := range 3 {
		one, f := at(p.Types, i), at(p.Funcs, i)
		var ops []any
		for _, in := range f.Code {
			ops = append(ops, in.Op)
		}
		all = append(all, anys(one.Fields), anys(f.Locals), ops)
		for j := range 3 {
			all = append(all, anys(at(f.Code, j).Args))
		}
	}
	return all
}

func at[T any](list []T, i int) (one T) {
	if i < len(list) {
		return list[i]
	}
	return one
}

func anys(list []int) (all []any) {
	for _, n := range list {
		all = append(all, n)
	}
	return all
}

// R4: each list of bytes that Encode answers is memory of its own.
func TestEncodedBytesAreApart(t *testing.T) {
	for _, p := range some() {
		first, second := encoded(t, p), encoded(t, p)
		before := slices.Clone(second)
		spoil(first, 0xee)
		if !bytes.Equal(second, before) || !bytes.Equal(encoded(t, p), before) {
			t.Errorf("one answer changed with the other: % x", second)
		}
	}
}
