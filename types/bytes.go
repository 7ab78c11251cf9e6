package types

import (
	"heddle/api"
	"heddle/numbers"
)

// What may stand behind a type's Kind, in the order in which it is written. No kind has it in another order.
const (
	keyPart = iota
	elemPart
	lenPart
	fieldsPart
	partCount
)

// partsOf says which parts a kind has, one bit each.
var partsOf = [...]int{
	api.KPtr:    1 << elemPart,
	api.KMap:    1<<keyPart | 1<<elemPart,
	api.KStruct: 1 << fieldsPart,
	api.KArray:  1<<elemPart | 1<<lenPart,
	api.KIter:   1 << elemPart,
}

// Encode answers the bytes of a sound table.
func Encode(ts []api.Type) ([]byte, api.Errno) {
	if e := Check(ts); e != api.OK {
		return nil, e
	}
	b := numbers.Append(nil, uint64(len(ts)))
	for _, one := range ts {
		b = appendType(b, one)
	}
	return b, api.OK
}

// Decode answers the table whose bytes are b. Beside ErrText, at is the place of the first fault.
func Decode(b []byte) (ts []api.Type, at int, e api.Errno) {
	if len(b) > api.MaxBytes {
		return nil, 0, api.ErrLarge
	}
	ts, at, ok := readTable(b)
	if !ok {
		return nil, at, api.ErrText
	}
	if e := Check(ts); e != api.OK {
		return nil, 0, e
	}
	return ts, 0, api.OK
}

func isKind(kind int) bool {
	return kind >= api.KBool && kind <= api.KIter
}

func hasPart(kind, part int) bool {
	return partsOf[kind]>>part&1 == 1
}

// restIsZero tells whether a type has none of the parts that its kind has not.
func restIsZero(one api.Type) bool {
	for part := range fieldsPart {
		if !hasPart(one.Kind, part) && *numberOf(&one, part) != 0 {
			return false
		}
	}
	return hasPart(one.Kind, fieldsPart) || len(one.Fields) == 0
}

// numberOf answers where a part stands that is a single number.
func numberOf(one *api.Type, part int) *int {
	switch part {
	case keyPart:
		return &one.Key
	case elemPart:
		return &one.Elem
	}
	return &one.Len
}

func appendType(b []byte, one api.Type) []byte {
	b = numbers.Append(b, uint64(one.Kind))
	for part := range partCount {
		switch {
		case !hasPart(one.Kind, part):
		case part == fieldsPart:
			b = appendFields(b, one.Fields)
		default:
			b = numbers.Append(b, uint64(*numberOf(&one, part)))
		}
	}
	return b
}

func appendFields(b []byte, fields []int) []byte {
	b = numbers.Append(b, uint64(len(fields)))
	for _, f := range fields {
		b = numbers.Append(b, uint64(f))
	}
	return b
}

// readTable answers a table that need not be sound. If it is not ok, at is the place of the first fault.
func readTable(b []byte) (ts []api.Type, at int, ok bool) {
	r := reader{bytes: b}
	// Counts are not trusted with room: they may promise far more than the bytes hold.
	count := r.number()
reading:
	for range count {
		one := api.Type{Kind: r.kind()}
		for part := range partCount {
			if r.fault {
				break reading
			}
			if !hasPart(one.Kind, part) {
				continue
			}
			n := r.number()
			if part != fieldsPart {
				*numberOf(&one, part) = n
				continue
			}
			for range n {
				f := r.number()
				if r.fault {
					break reading
				}
				one.Fields = append(one.Fields, f)
			}
		}
		ts = append(ts, one)
	}
	return ts, r.at, !r.fault && r.at == len(b)
}

// reader reads one number behind the other. At a fault it stays where that number begins.
type reader struct {
	bytes []byte
	at    int
	fault bool
}

// number answers the next number, 0 from the first fault on.
func (r *reader) number() int {
	if r.fault {
		return 0
	}
	n, behind, ok := numbers.Read(r.bytes, r.at, numbers.Limit)
	r.at, r.fault = behind, !ok
	return int(n)
}

// kind answers the next number, which is at fault if it is no kind.
func (r *reader) kind() int {
	begin := r.at
	kind := r.number()
	if !r.fault && !isKind(kind) {
		r.at, r.fault = begin, true
		return 0
	}
	return kind
}
