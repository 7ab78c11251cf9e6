package cells

import (
	"math"
	"strconv"

	"heddle/api"
	"heddle/quoted"
	"heddle/walk"
)

// noughts are as many as a float has digits.
const noughts = "0000000000000000"

// Text answers the text of a value of type t.
func Text(ts []api.Type, t int, v []api.Cell) (string, api.Errno) {
	if e := Check(ts, t, v); e != api.OK {
		return "", e
	}
	var b []byte
	var tell func(t int, list []api.Cell) (rest []api.Cell)
	tell = func(t int, list []api.Cell) []api.Cell {
		if inner := walk.Parts(ts[t]); len(inner) > 0 {
			opening, closing := brackets(ts[t].Kind)
			b = append(b, opening)
			for i, one := range inner {
				if i > 0 {
					b = append(b, ' ')
				}
				list = tell(one, list)
			}
			b = append(b, closing)
			return list
		}
		c := list[0]
		if c.T == 0 {
			b = appendCell(b, ts[t].Kind, c)
		} else {
			b = append(strconv.AppendInt(b, int64(c.T-1), 10), ':')
			tell(c.T-1, c.Box)
		}
		return list[1:]
	}
	tell(t, v)
	return string(b), api.OK
}

// brackets answers what stands around the parts of a struct or an array.
func brackets(kind int) (opening, closing byte) {
	if kind == api.KStruct {
		return '{', '}'
	}
	return '[', ']'
}

// appendCell answers b with the text of a sound cell that holds nothing in a box behind it.
func appendCell(b []byte, kind int, c api.Cell) []byte {
	switch kind {
	case api.KBool:
		return strconv.AppendBool(b, c.N == 1)
	case api.KInt:
		return strconv.AppendInt(b, int64(c.N), 10)
	case api.KFloat:
		return appendFloat(b, c.N)
	case api.KStr:
		return quoted.Append(b, c.S)
	}
	return append(b, nameOf(kind, c.N)...)
}

// nameOf answers what is told of a pointer, a map or an iterator. Their numbers are not told, since they hang on where things lie; an interface comes here only if it is nil.
func nameOf(kind int, n uint64) string {
	switch {
	case n == 0:
		return "nil"
	case kind == api.KPtr:
		return "ptr"
	case kind == api.KMap:
		return "map"
	}
	return "iter"
}

func appendFloat(b []byte, bits uint64) []byte {
	if math.IsNaN(math.Float64frombits(bits)) {
		return append(b, "nan"...)
	}
	digits := strconv.FormatUint(bits, 16)
	return append(append(b, noughts[len(digits):]...), digits...)
}
