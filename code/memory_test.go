package code_test

import (
	"bytes"
	"reflect"
	"slices"
	"testing"

	"heddle/api"
	"heddle/code"
	"heddle/progs"
)

// R4: what is handed in stays as it is, spare room included, and is not kept.
func TestArgumentsStay(t *testing.T) {
	for _, p := range some() {
		given := progs.Roomy(p)
		before := progs.Whole(given)
		b, _ := code.Encode(given)
		code.Same(given, p)
		code.Same(p, given)
		if !reflect.DeepEqual(progs.Whole(given), before) {
			t.Fatalf("what was handed in has changed: %v", given)
		}
		want := slices.Clone(b)
		for _, n := range progs.Numbers(&given) {
			*n = 55
		}
		if !bytes.Equal(b, want) {
			t.Fatal("the bytes have changed with the program")
		}
		withSpare := append(slices.Clone(b), 0xee, 0xee, 0xee)
		handed := withSpare[:len(b)]
		q, _, _ := code.Decode(handed)
		if !bytes.Equal(withSpare, join(b, []byte{0xee, 0xee, 0xee})) {
			t.Fatal("the bytes that were handed in have changed")
		}
		for i := range withSpare {
			withSpare[i] = 0xdd
		}
		if !alike(q, p) {
			t.Fatalf("the program has changed with the bytes: %v", q)
		}
	}
}

// R4: bytes at which Decode finds a fault stay as they are too.
func TestFaultyBytesStay(t *testing.T) {
	b := sampleBytes()
	for n := range b {
		code.Decode(b[:n])
		if !bytes.Equal(b, sampleBytes()) {
			t.Fatalf("the bytes have changed at %d", n)
		}
	}
}

// spoil gives all of a list, spare room too, another value.
func spoil[T any](list []T, value T) {
	list = list[:cap(list)]
	for i := range list {
		list[i] = value
	}
}

// R4: no two lists of a program that is answered share memory, spare room included: what one of them loses, no other one does.
func TestDecodedListsAreApart(t *testing.T) {
	p := api.Prog{
		Types:   []api.Type{{Kind: api.KStruct, Fields: []int{1, 2, 3}}, {Kind: api.KStruct, Fields: []int{4}}, {Kind: api.KStruct, Fields: []int{5, 6, 7, 8, 9}}},
		Strs:    []string{"a", "b", "c"},
		Globals: []int{1, 2, 3},
		Funcs: []api.Func{
			{Locals: []int{1, 2, 3}, Code: []api.Instr{{Op: api.OpCall, Args: []int{1, 2, 3}}, {Op: api.OpCall, Args: []int{4}}, {Op: api.OpCall, Args: []int{5, 6, 7, 8, 9}}}},
			{Locals: []int{4, 5, 6, 7, 8}, Code: []api.Instr{{Op: api.OpCall, Args: []int{1}}}},
			{},
		},
	}
	b := encoded(t, p)
	one, _, _ := code.Decode(b)
	other, _, _ := code.Decode(b)
	if !progs.Apart(one) {
		t.Errorf("two lists of an answer share memory: %v", one)
	}
	spoil(one.Strs, "spoilt")
	if !alike(other, p) {
		t.Errorf("one answer changed with the other: %v", other)
	}
}

// R4: each list of bytes that Encode answers is memory of its own.
func TestEncodedBytesAreApart(t *testing.T) {
	for _, p := range some() {
		first, second := encoded(t, p), encoded(t, p)
		before := slices.Clone(second)
		spoil(first, 0xee)
		if !bytes.Equal(second, before) || !bytes.Equal(encoded(t, p), before) {
			t.Errorf("one answer changed with the other: % x", second)
		}
	}
}
