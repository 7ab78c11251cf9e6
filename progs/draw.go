package progs

import (
	"strings"

	"heddle/api"
	"heddle/code"
	"heddle/numbers"
)

// Draw is a row of numbers that is the same at each run.
type Draw uint64

// Next answers the next number of the row.
func (d *Draw) Next() uint64 {
	*d += 0x9e3779b97f4a7c15
	n := uint64(*d)
	n = (n ^ n>>30) * 0xbf58476d1ce4e5b9
	n = (n ^ n>>27) * 0x94d049bb133111eb
	return n ^ n>>31
}

// Below answers a number from 0 to n - 1.
func (d *Draw) Below(n int) int {
	return int(d.Next() % uint64(n))
}

// Number answers numbers of each length, up to the highest that can be written.
func (d *Draw) Number() int {
	return int(d.Next() & numbers.Limit >> d.Below(31))
}

// Program answers one that can be written, but hardly ever is sound.
func (d *Draw) Program() (p api.Prog) {
	for range d.Below(5) {
		p.Types = append(p.Types, d.oneType())
	}
	for range d.Below(4) {
		p.Strs = append(p.Strs, strings.Repeat(string([]byte{byte(d.Next())}), d.Below(1+d.Below(200))))
	}
	p.Globals = d.list(3)
	for range d.Below(4) {
		f := api.Func{Params: d.Number(), Locals: d.list(4), Result: d.Number()}
		for range d.Below(6) {
			f.Code = append(f.Code, d.instr())
		}
		p.Funcs = append(p.Funcs, f)
	}
	return p
}

func (d *Draw) list(most int) (list []int) {
	for range d.Below(most + 1) {
		list = append(list, d.Number())
	}
	return list
}

func (d *Draw) oneType() api.Type {
	one := api.Type{Kind: api.KBool + d.Below(api.KIter)}
	switch one.Kind {
	case api.KPtr, api.KIter:
		one.Elem = d.Number()
	case api.KMap:
		one.Key, one.Elem = d.Number(), d.Number()
	case api.KStruct:
		one.Fields = d.list(4)
	case api.KArray:
		one.Elem, one.Len = d.Number(), d.Number()
	}
	return one
}

func (d *Draw) instr() api.Instr {
	in := api.Instr{Op: api.OpInt + d.Below(api.OpYield)}
	letters, _ := code.Fields(in.Op)
	for _, letter := range letters {
		in = WithField(in, letter, d.Number())
	}
	if in.N != 0 {
		in.N = d.Next() >> d.Below(64)
	}
	if in.Op == api.OpCall {
		in.Args = d.list(4)
	}
	return in
}
