package code_test

import (
	"math"
	"slices"
	"testing"

	"heddle/api"
	"heddle/code"
	"heddle/progs"
)

func wantSame(t *testing.T, what string, p, q api.Prog, want bool) {
	t.Helper()
	if got := code.Same(p, q); got != want {
		t.Errorf("Same, %s: %v", what, got)
	}
	if got := code.Same(q, p); got != want {
		t.Errorf("Same the other way round, %s: %v", what, got)
	}
}

// P18.4: programs are the same as their copies, and as no other one.
func TestSameOfSome(t *testing.T) {
	list := some()
	for i, p := range list {
		for j, q := range list {
			wantSame(t, "two of some", progs.Copy(p), q, i == j || alike(p, q))
		}
	}
}

// P18.4: lists that are nil and empty are the same.
func TestSameOfEmptyLists(t *testing.T) {
	none := api.Prog{Types: []api.Type{{Kind: api.KStruct}}, Funcs: []api.Func{{Code: []api.Instr{{Op: api.OpCall}}}, {}}}
	empty := api.Prog{Types: []api.Type{{Kind: api.KStruct, Fields: []int{}}}, Strs: []string{}, Globals: []int{}, Funcs: []api.Func{{Locals: []int{}, Code: []api.Instr{{Op: api.OpCall, Args: []int{}}}}, {Locals: []int{}, Code: []api.Instr{}}}}
	wantSame(t, "empty lists", none, empty, true)
	wantSame(t, "no program", api.Prog{}, api.Prog{Types: []api.Type{}, Strs: []string{}, Globals: []int{}, Funcs: []api.Func{}}, true)
	wantSame(t, "one that is empty", api.Prog{}, api.Prog{Strs: []string{""}}, false)
	wantSame(t, "one that is zero", api.Prog{}, api.Prog{Globals: []int{0}}, false)
	wantSame(t, "one function", api.Prog{}, api.Prog{Funcs: []api.Func{{}}}, false)
	wantSame(t, "one type", api.Prog{}, api.Prog{Types: []api.Type{{}}}, false)
}

// P18.4: each number counts, also of programs that can't be written.
func TestSameOfNumbers(t *testing.T) {
	for _, first := range []int{0, -1, math.MinInt} {
		p, q := sample(), sample()
		there, here := progs.Numbers(&p), progs.Numbers(&q)
		for i := range there {
			if first != 0 {
				*there[i], *here[i] = first, first
			}
			kept := *there[i]
			for _, other := range []int{kept + 1, kept - 1, kept ^ 1<<32, kept ^ math.MinInt} {
				*there[i] = other
				wantSame(t, "a number", p, q, false)
			}
			*there[i] = kept
			wantSame(t, "a number again", p, q, true)
			if t.Failed() {
				t.Fatalf("number %d", i)
			}
		}
	}
}

// P18.4: long numbers, texts, and how many there are count too.
func TestSameOfTheRest(t *testing.T) {
	for name, change := range map[string]func(p *api.Prog){
		"N":              func(p *api.Prog) { p.Funcs[0].Code[0].N ^= 1 << 63 },
		"N of a Halt":    func(p *api.Prog) { p.Funcs[0].Code[39].N = 1 },
		"a text":         func(p *api.Prog) { p.Strs[1] = "abd" },
		"a longer text":  func(p *api.Prog) { p.Strs[1] = "abcd" },
		"texts' order":   func(p *api.Prog) { p.Strs[0], p.Strs[1] = p.Strs[1], p.Strs[0] },
		"texts joined":   func(p *api.Prog) { p.Strs = []string{"a", "bc"} },
		"a text less":    func(p *api.Prog) { p.Strs = p.Strs[:3] },
		"a type less":    func(p *api.Prog) { p.Types = p.Types[:10] },
		"a type more":    func(p *api.Prog) { p.Types = append(p.Types, api.Type{}) },
		"a field less":   func(p *api.Prog) { p.Types[7].Fields = p.Types[7].Fields[:2] },
		"a field more":   func(p *api.Prog) { p.Types[0].Fields = []int{0} },
		"a global less":  func(p *api.Prog) { p.Globals = p.Globals[:2] },
		"a global more":  func(p *api.Prog) { p.Globals = append(p.Globals, 0) },
		"a func less":    func(p *api.Prog) { p.Funcs = p.Funcs[:3] },
		"a func more":    func(p *api.Prog) { p.Funcs = append(p.Funcs, api.Func{}) },
		"a local less":   func(p *api.Prog) { p.Funcs[0].Locals = p.Funcs[0].Locals[:2] },
		"a local more":   func(p *api.Prog) { p.Funcs[1].Locals = []int{0} },
		"an instr less":  func(p *api.Prog) { p.Funcs[0].Code = p.Funcs[0].Code[:40] },
		"an instr more":  func(p *api.Prog) { p.Funcs[1].Code = []api.Instr{{}} },
		"an arg less":    func(p *api.Prog) { p.Funcs[0].Code[34].Args = []int{6} },
		"an arg more":    func(p *api.Prog) { p.Funcs[0].Code[0].Args = []int{0} },
		"args' order":    func(p *api.Prog) { slices.Reverse(p.Funcs[0].Code[34].Args) },
		"funcs' order":   func(p *api.Prog) { p.Funcs[1], p.Funcs[3] = p.Funcs[3], p.Funcs[1] },
		"types' order":   func(p *api.Prog) { p.Types[0], p.Types[1] = p.Types[1], p.Types[0] },
		"globals' order": func(p *api.Prog) { slices.Reverse(p.Globals) },
	} {
		p := progs.Copy(sample())
		change(&p)
		wantSame(t, name, p, sample(), false)
		wantSame(t, name+", of both", p, progs.Copy(p), true)
	}
	two := api.Prog{Strs: []string{"a", "bc"}}
	wantSame(t, "texts cut elsewhere", two, api.Prog{Strs: []string{"ab", "c"}}, false)
}
