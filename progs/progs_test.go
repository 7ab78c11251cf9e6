package progs_test

import (
	"reflect"
	"testing"

	"heddle/api"
	"heddle/progs"
)

// sample answers a program with something in each kind of list. Its numbers are 1 to 33, in the order in which they are told.
func sample() api.Prog {
	return api.Prog{
		Types:   []api.Type{{Kind: 1, Elem: 2, Key: 3, Len: 4, Fields: []int{5, 6}}, {Kind: 7, Elem: 8, Key: 9, Len: 10}},
		Strs:    []string{"one", "two"},
		Globals: []int{11, 12},
		Funcs: []api.Func{
			{Params: 13, Result: 14, Locals: []int{15, 16}, Code: []api.Instr{
				{Op: 17, A: 18, B: 19, C: 20, D: 21, N: 99, Args: []int{22, 23}},
				{Op: 24, A: 25, B: 26, C: 27, D: 28, N: 98},
			}},
			{Params: 29, Result: 30, Locals: []int{31}},
			{Params: 32, Result: 33},
		},
	}
}

const count = 33

// spoil changes all that a program has.
func spoil(p *api.Prog) {
	for _, n := range progs.Numbers(p) {
		*n = 1000
	}
	for i := range p.Strs {
		p.Strs[i] = "spoilt"
	}
	for i := range p.Funcs {
		for j := range p.Funcs[i].Code {
			p.Funcs[i].Code[j].N = 1000
		}
	}
}

func TestNumbers(t *testing.T) {
	p := sample()
	list := progs.Numbers(&p)
	if len(list) != count {
		t.Fatalf("%d numbers", len(list))
	}
	for i, n := range list {
		if *n != i+1 {
			t.Errorf("number %d is %d", i+1, *n)
		}
	}
	if list := progs.Numbers(&api.Prog{}); len(list) != 0 {
		t.Errorf("the empty program has numbers: %v", list)
	}
}

func TestCopy(t *testing.T) {
	p := sample()
	q := progs.Copy(p)
	if !reflect.DeepEqual(q, p) {
		t.Errorf("the copy is %v", q)
	}
	spoil(&q)
	if !reflect.DeepEqual(p, sample()) {
		t.Errorf("the program changed with its copy: %v", p)
	}
	empty := api.Prog{Types: []api.Type{}, Strs: []string{}, Globals: []int{}, Funcs: []api.Func{}}
	if !reflect.DeepEqual(progs.Copy(empty), api.Prog{}) {
		t.Error("empty lists are kept")
	}
}

func TestRoomy(t *testing.T) {
	p := sample()
	q := progs.Roomy(p)
	if !reflect.DeepEqual(progs.Copy(q), p) {
		t.Errorf("the copy is %v", q)
	}
	before := progs.Whole(q)
	for _, spare := range []func(){
		func() { add(q.Types, api.Type{}) },
		func() { add(q.Types[1].Fields, 0) },
		func() { add(q.Strs, "") },
		func() { add(q.Globals, 0) },
		func() { add(q.Funcs, api.Func{}) },
		func() { add(q.Funcs[2].Locals, 0) },
		func() { add(q.Funcs[1].Code, api.Instr{}) },
		func() { add(q.Funcs[0].Code[1].Args, 0) },
	} {
		spare()
		after := progs.Whole(q)
		if reflect.DeepEqual(after, before) {
			t.Error("a list has no spare room that is told")
		}
		before = after
	}
	spoil(&q)
	if !reflect.DeepEqual(p, sample()) {
		t.Errorf("the program changed with its copy: %v", p)
	}
}

// add writes into the spare room of a list, as a call does that adds to a list which was handed in.
func add[T any](list []T, one T) {
	_ = append(list, one)
}

func TestWhole(t *testing.T) {
	q := progs.Roomy(sample())
	whole := progs.Whole(q)
	if len(whole.Types) != cap(q.Types) || len(whole.Funcs) != cap(q.Funcs) || len(whole.Strs) != cap(q.Strs) || len(whole.Globals) != cap(q.Globals) {
		t.Errorf("lists without their spare room: %v", whole)
	}
	spoil(&whole)
	if !reflect.DeepEqual(progs.Copy(q), sample()) || reflect.DeepEqual(progs.Whole(q), whole) {
		t.Errorf("the program changed with its copy: %v", q)
	}
}
