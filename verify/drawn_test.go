package verify_test

import (
	"slices"
	"testing"

	"heddle/api"
	"heddle/code"
	"heddle/progs"
	"heddle/types"
)

// draw draws programs that are sound, or nearly so.
type draw struct {
	progs.Draw
}

func (d *draw) list(count, below int) (list []int) {
	for range count {
		list = append(list, d.Below(below))
	}
	return list
}

// table answers a table of types that is sound.
func (d *draw) table() []api.Type {
	for {
		count := 6 + d.Below(12)
		ts := []api.Type{{Kind: api.KBool}, {Kind: api.KInt}, {Kind: api.KStr}, {Kind: api.KIface}}
		for t := len(ts); t < count; t++ {
			one := api.Type{Kind: 1 + d.Below(10)}
			switch one.Kind {
			case api.KPtr:
				one.Elem = d.Below(count)
			case api.KMap:
				one.Key, one.Elem = d.Below(count), d.Below(count)
			case api.KStruct:
				one.Fields = d.list(1+d.Below(3), t)
			case api.KArray:
				one.Elem, one.Len = d.Below(t), 1+d.Below(4)
			case api.KIter:
				one.Elem = d.Below(count)
			}
			// What can't be so is drawn again, as far as it shows yet.
			ts = append(ts, one)
			if later := one.Kind == api.KPtr || one.Kind == api.KMap || one.Kind == api.KIter; !later && types.Check(plainly(ts)) != api.OK {
				ts = ts[:t]
				t--
			}
		}
		if types.Check(ts) == api.OK {
			return ts
		}
	}
}

// plainly answers a table in which what may name later types names none.
func plainly(ts []api.Type) []api.Type {
	ts = slices.Clone(ts)
	for i, one := range ts {
		switch one.Kind {
		case api.KPtr:
			ts[i].Elem = 0
		case api.KMap, api.KIter:
			ts[i] = api.Type{Kind: api.KMap}
		}
	}
	return ts
}

// instr answers an instruction that can be written, whose numbers are below a top.
func (d *draw) instr(op, top int) api.Instr {
	in := api.Instr{Op: op}
	letters, _ := code.Fields(op)
	for _, letter := range letters {
		switch letter {
		case 'A':
			in.A = d.Below(top)
		case 'B':
			in.B = d.Below(top)
		case 'C':
			in.C = d.Below(top)
		case 'D':
			in.D = d.Below(20)
		case 'N':
			in.N = uint64(d.Below(3))
		case 'G':
			in.Args = d.list(d.Below(3), top)
		}
	}
	return in
}

// soundInstr answers an instruction that is sound, if one was found soon enough.
func (d *draw) soundInstr(m model) (in api.Instr) {
	for range 5 {
		op := 1 + d.Below(opCount)
		for range 500 {
			if in = d.instr(op, len(m.f.Locals)+1); m.sound(in) {
				return in
			}
		}
	}
	return in
}

// program answers one most of whose instructions are sound.
func (d *draw) program(most int) api.Prog {
	p := api.Prog{Types: table(), Strs: slices.Repeat([]string{"x"}, d.Below(3))}
	if d.Below(2) == 0 {
		p.Types = d.table()
	}
	types := len(p.Types)
	p.Globals = d.values(p, d.Below(3))
	for i := range 1 + d.Below(3) {
		f := api.Func{Code: make([]api.Instr, 1+d.Below(most))}
		if i > 0 {
			f.Locals = d.values(p, d.Below(3))
			f.Params = len(f.Locals)
		}
		f.Locals = append(f.Locals, d.list(6+d.Below(10), types)...)
		if d.Below(2) == 0 {
			f.Result = 1 + d.values(p, 1)[0]
		}
		p.Funcs = append(p.Funcs, f)
	}
	for _, f := range p.Funcs {
		m := model{p, f}
		for i := range f.Code {
			f.Code[i] = d.soundInstr(m)
		}
		if d.Below(10) > 0 {
			f.Code[len(f.Code)-1] = halt
		}
	}
	return p
}

// values answers types that are not KIter.
func (d *draw) values(p api.Prog, count int) (list []int) {
	for len(list) < count {
		if t := d.Below(len(p.Types)); value(p, t) {
			list = append(list, t)
		}
	}
	return list
}

// P19.1, held against the model: drawn programs, and each with some numbers changed.
func TestDrawnPrograms(t *testing.T) {
	d := draw{19}
	count := map[string]int{}
	seen := map[int]int{}
	for range 2500 {
		p := d.program(8)
		if _, _, e := hold(t, p); e == api.OK {
			count["sound"]++
			for _, f := range p.Funcs {
				for _, in := range f.Code {
					seen[in.Op]++
				}
			}
		}
		for range 3 {
			list := progs.Numbers(&p)
			n := list[d.Below(len(list))]
			before := *n
			*n = []int{before + 1, before - 1, d.Below(20), d.Below(20), d.Below(20), limit}[d.Below(6)]
			fn, at, e := hold(t, p)
			switch {
			case e == api.OK:
				count["changed and sound"]++
			case fn == 0:
				count["outside"]++
			case at == 0:
				count["head"]++
			default:
				count["instruction"]++
			}
			if d.Below(2) == 0 {
				*n = before
			}
		}
		if t.Failed() {
			return
		}
	}
	for _, what := range []string{"sound", "changed and sound", "outside", "head", "instruction"} {
		if count[what] < 200 {
			t.Errorf("the programs are too much alike: %v", count)
		}
	}
	if len(seen) != opCount {
		t.Errorf("the sound programs have too few operations: %v", seen)
	}
}

// piece answers a few instructions, of which the first has that number: a loop, one with a fault, or a jump.
func (d *draw) piece(first, whole int) []api.Instr {
	list := loop(first, aMap, []int{anIter, another}[d.Below(2)], aKey, []int{aValue, anInt}[d.Below(2)])
	switch d.Below(7) {
	case 0:
		return []api.Instr{{Op: api.OpIf, A: aFlag, B: d.Below(whole)}}
	case 1:
		return []api.Instr{{Op: api.OpJump, A: d.Below(whole)}}
	case 2:
		return []api.Instr{{Op: api.OpYield}, {Op: api.OpOut, A: aKey}}
	case 3:
		if d.Below(4) > 0 {
			break
		}
		in := &list[d.Below(len(list))]
		n := []*int{&in.A, &in.B, &in.C, &in.D}[d.Below(4)]
		*n += d.Below(3) - 1
	}
	return list
}

// P19.2, held against the model: drawn programs of loops and jumps.
func TestDrawnLoops(t *testing.T) {
	d := draw{20}
	count := map[string]int{}
	for range 30000 {
		whole := 6 + d.Below(20)
		var list []api.Instr
		for len(list) < whole {
			list = append(list, d.piece(len(list), whole)...)
		}
		p := loops(append(list, halt)...)
		_, _, e := hold(t, p)
		switch {
		case e != api.OK:
			count["not sound"]++
		case plain(p):
			count["plain"]++
		default:
			count["not plain"]++
		}
		if t.Failed() {
			return
		}
	}
	for _, what := range []string{"not sound", "plain", "not plain"} {
		if count[what] < 1000 {
			t.Errorf("the programs are too much alike: %v", count)
		}
	}
}
