package progs_test

import (
	"reflect"
	"strconv"
	"testing"

	"heddle/api"
	"heddle/code"
	"heddle/progs"
)

// sample answers a program with something in each kind of list. Its numbers are 1 to 33, in the order in which they are told.
func sample() api.Prog {
	return api.Prog{
		Types:   []api.Type{{Kind: 1, Elem: 2, Key: 3, Len: 4, Fields: []int{5, 6}}, {Kind: 7, Elem: 8, Key: 9, Len: 10}},
		Strs:    []string{"one", "two"},
		Globals: []int{11, 12},
		Funcs: []api.Func{
			{Params: 13, Result: 14, Locals: []int{15, 16}, Code: []api.Instr{
				{Op: 17, A: 18, B: 19, C: 20, D: 21, N: 99, Args: []int{22, 23}},
				{Op: 24, A: 25, B: 26, C: 27, D: 28, N: 98},
			}},
			{Params: 29, Result: 30, Locals: []int{31}},
			{Params: 32, Result: 33},
		},
	}
}

const count = 33

// spoil changes all that a program has.
func spoil(p *api.Prog) {
	for _, n := range progs.Numbers(p) {
		*n = 1000
	}
	for i := range p.Strs {
		p.Strs[i] = "spoilt"
	}
	for i := range p.Funcs {
		for j := range p.Funcs[i].Code {
			p.Funcs[i].Code[j].N = 1000
		}
	}
}

func TestNumbers(t *testing.T) {
	p := sample()
	list := progs.Numbers(&p)
	if len(list) != count {
		t.Fatalf("%d numbers", len(list))
	}
	for i, n := range list {
		if *n != i+1 {
			t.Errorf("number %d is %d", i+1, *n)
		}
	}
	if list := progs.Numbers(&api.Prog{}); len(list) != 0 {
		t.Errorf("the empty program has numbers: %v", list)
	}
}

func TestCopy(t *testing.T) {
	p := sample()
	q := progs.Copy(p)
	if !reflect.DeepEqual(q, p) {
		t.Errorf("the copy is %v", q)
	}
	spoil(&q)
	if !reflect.DeepEqual(p, sample()) {
		t.Errorf("the program changed with its copy: %v", p)
	}
	empty := api.Prog{Types: []api.Type{}, Strs: []string{}, Globals: []int{}, Funcs: []api.Func{}}
	if !reflect.DeepEqual(progs.Copy(empty), api.Prog{}) {
		t.Error("empty lists are kept")
	}
}

func TestRoomy(t *testing.T) {
	p := sample()
	q := progs.Roomy(p)
	if !reflect.DeepEqual(progs.Copy(q), p) {
		t.Errorf("the copy is %v", q)
	}
	before := progs.Whole(q)
	for _, spare := range []func(){
		func() { add(q.Types, api.Type{}) },
		func() { add(q.Types[1].Fields, 0) },
		func() { add(q.Strs, "") },
		func() { add(q.Globals, 0) },
		func() { add(q.Funcs, api.Func{}) },
		func() { add(q.Funcs[2].Locals, 0) },
		func() { add(q.Funcs[1].Code, api.Instr{}) },
		func() { add(q.Funcs[0].Code[1].Args, 0) },
	} {
		spare()
		after := progs.Whole(q)
		if reflect.DeepEqual(after, before) {
			t.Error("a list has no spare room that is told")
		}
		before = after
	}
	spoil(&q)
	if !reflect.DeepEqual(p, sample()) {
		t.Errorf("the program changed with its copy: %v", p)
	}
}

// add writes into the spare room of a list, as a call does that adds to a list which was handed in.
func add[T any](list []T, one T) {
	_ = append(list, one)
}

func TestWhole(t *testing.T) {
	q := progs.Roomy(sample())
	whole := progs.Whole(q)
	if len(whole.Types) != cap(q.Types) || len(whole.Funcs) != cap(q.Funcs) || len(whole.Strs) != cap(q.Strs) || len(whole.Globals) != cap(q.Globals) {
		t.Errorf("lists without their spare room: %v", whole)
	}
	spoil(&whole)
	if !reflect.DeepEqual(progs.Copy(q), sample()) || reflect.DeepEqual(progs.Whole(q), whole) {
		t.Errorf("the program changed with its copy: %v", q)
	}
}

func TestApart(t *testing.T) {
	if !progs.Apart(api.Prog{}) || !progs.Apart(sample()) || !progs.Apart(progs.Roomy(sample())) {
		t.Error("lists that share nothing are not apart")
	}
	shared := make([]int, 4)
	code := make([]api.Instr, 4)
	for i, share := range []func(p *api.Prog){
		func(p *api.Prog) { p.Types[0].Fields, p.Types[1].Fields = shared, shared },
		func(p *api.Prog) { p.Types[0].Fields, p.Globals = shared, shared },
		func(p *api.Prog) { p.Types[0].Fields, p.Globals = shared[:2], shared[2:] },
		func(p *api.Prog) { p.Types[0].Fields, p.Globals = shared[:0], shared[3:] },
		func(p *api.Prog) { p.Globals, p.Funcs[2].Locals = shared[:1], shared[:1] },
		func(p *api.Prog) { p.Funcs[0].Locals, p.Funcs[1].Locals = shared, shared },
		func(p *api.Prog) { p.Funcs[0].Code[0].Args, p.Funcs[0].Code[1].Args = shared, shared },
		func(p *api.Prog) { p.Funcs[0].Code[0].Args, p.Globals = shared[:0], shared[:0] },
		func(p *api.Prog) { p.Funcs[0].Code, p.Funcs[1].Code = code, code },
		func(p *api.Prog) { p.Funcs[0].Code, p.Funcs[2].Code = code[:1], code[1:] },
	} {
		p := sample()
		share(&p)
		if progs.Apart(p) {
			t.Errorf("lists that share memory are apart: %d", i)
		}
	}
	apart := sample()
	apart.Types[0].Fields, apart.Globals = shared[:2:2], shared[2:]
	if !progs.Apart(apart) {
		t.Error("lists that are cut apart are not apart")
	}
}

func TestFull(t *testing.T) {
	for letters, want := range map[string]api.Instr{
		"":     {Op: 7},
		"A":    {Op: 7, A: 1},
		"ABCD": {Op: 7, A: 1, B: 2, C: 3, D: 4},
		"AN":   {Op: 7, A: 1, N: 300},
		"ABG":  {Op: 7, A: 1, B: 2, Args: []int{6, 7}},
	} {
		if in := progs.Full(7, letters); !reflect.DeepEqual(in, want) {
			t.Errorf("Full(7, %s) = %v", letters, in)
		}
	}
	in := api.Instr{Op: 7}
	for i, letter := range "ABCDNG" {
		in = progs.WithField(in, letter, i)
	}
	if want := (api.Instr{Op: 7, A: 0, B: 1, C: 2, D: 3, N: 4, Args: []int{5}}); !reflect.DeepEqual(in, want) {
		t.Errorf("WithField: %v", in)
	}
}

// Drawn programs can be written, are the same at each run, and have each kind and each operation among them.
func TestDraw(t *testing.T) {
	d, again := progs.Draw(1), progs.Draw(1)
	seen := map[string]int{}
	for range 2000 {
		p := d.Program()
		if !reflect.DeepEqual(p, again.Program()) {
			t.Fatal("another program comes at another run")
		}
		if _, e := code.Encode(p); e != api.OK {
			t.Fatalf("%v can't be written: %d", p, e)
		}
		for _, one := range p.Types {
			seen["kind "+strconv.Itoa(one.Kind)]++
		}
		for _, f := range p.Funcs {
			for _, in := range f.Code {
				seen["op "+strconv.Itoa(in.Op)]++
			}
		}
	}
	if len(seen) != api.KIter+api.OpYield {
		t.Errorf("some never come: %v", seen)
	}
	for range 1000 {
		if n := d.Number(); n < 0 || n > 1<<31-1 {
			t.Errorf("Number: %d", n)
		}
		if n := d.Below(7); n < 0 || n > 6 {
			t.Errorf("Below(7): %d", n)
		}
	}
}

func letters(op int) string {
	told, _ := code.Fields(op)
	return told
}

// A sample has each kind and each operation, and can be written.
func TestSample(t *testing.T) {
	p := progs.Sample(letters)
	if _, e := code.Encode(p); e != api.OK {
		t.Errorf("the sample can't be written: %d", e)
	}
	seen := map[int]int{}
	for _, one := range p.Types {
		seen[-one.Kind]++
	}
	for _, f := range p.Funcs {
		for _, in := range f.Code {
			seen[in.Op]++
		}
	}
	if len(seen) != api.KIter+api.OpYield || len(p.Strs) == 0 || len(p.Globals) == 0 || !progs.Apart(p) {
		t.Errorf("something is missing: %v", p)
	}
}

// Edges can be written or not, as they tell.
func TestEdges(t *testing.T) {
	count := map[bool]int{}
	for _, edge := range progs.Edges(letters) {
		want := api.ErrForm
		if edge.Written {
			want = api.OK
		}
		if _, e := code.Encode(edge.Prog); e != want {
			t.Errorf("%v: %d", edge.Prog, e)
		}
		count[edge.Written]++
	}
	if count[true] < 150 || count[false] < 1000 {
		t.Errorf("there are not enough: %v", count)
	}
}
