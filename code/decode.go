package code

import (
	"math"

	"heddle/api"
	"heddle/numbers"
	"heddle/tables"
)

// Decode answers the program whose bytes are b. Beside ErrText, at is the place of the first fault.
func Decode(b []byte) (p api.Prog, at int, e api.Errno) {
	if len(b) > api.MaxBytes {
		return api.Prog{}, 0, api.ErrLarge
	}
	r := numbers.Over(b)
	p = readProgram(r)
	if at, ok := r.End(); !ok {
		return api.Prog{}, at, api.ErrText
	}
	return p, 0, api.OK
}

// readProgram answers the program that r tells next, as far as there is no fault. What stands behind one another in its literals is read in that order.
func readProgram(r *numbers.Reader) api.Prog {
	number := func() int { return int(r.Next(0, numbers.Limit)) }
	instr := func() api.Instr { return readInstr(r, number) }
	function := func() api.Func {
		return api.Func{
			Params: number(),
			Locals: readList(r, number),
			Result: number(),
			Code:   readList(r, instr),
		}
	}
	return api.Prog{
		Types:   tables.Read(r),
		Strs:    readList(r, r.Text),
		Globals: readList(r, number),
		Funcs:   readList(r, function),
	}
}

func readInstr(r *numbers.Reader, number func() int) api.Instr {
	in := api.Instr{Op: int(r.Next(api.OpInt, api.OpYield))}
	for field := range fieldCount {
		switch {
		case !hasField(in.Op, field):
		case field == fieldN:
			in.N = r.Next(0, math.MaxUint64)
		case field == fieldArgs:
			in.Args = readList(r, number)
		default:
			*numberOf(&in, field) = number()
		}
	}
	return in
}

// readList reads how many items there are, and each of them, up to a fault.
func readList[T any](r *numbers.Reader, read func() T) (list []T) {
	// The count is not trusted with room: it may promise far more than the bytes hold.
	for range r.Next(0, numbers.Limit) {
		one := read()
		if r.Fault() {
			return nil
		}
		list = append(list, one)
	}
	return list
}
