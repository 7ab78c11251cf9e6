// Package tables tells of which numbers tables of types are made, sound or not, and in which order they are written. It is no layer: tables stand by themselves and in programs. See shared/doc/02-types.md.
package tables

import (
	"heddle/api"
	"heddle/numbers"
)

// What may stand behind a type's Kind, in the order in which it is written. No kind has it in another order.
const (
	keyPart = iota
	elemPart
	lenPart
	fieldsPart
	partCount
)

// partsOf says which parts a kind has, one bit each.
var partsOf = [...]int{
	api.KPtr:    1 << elemPart,
	api.KMap:    1<<keyPart | 1<<elemPart,
	api.KStruct: 1 << fieldsPart,
	api.KArray:  1<<elemPart | 1<<lenPart,
	api.KIter:   1 << elemPart,
}

// CanWrite tells whether a type's Kind is one of the ten, all its numbers may be written, and it has none of the parts that its kind has not.
func CanWrite(one api.Type) bool {
	if one.Kind < api.KBool || one.Kind > api.KIter || !numbers.Fit(one.Fields...) {
		return false
	}
	for part := range fieldsPart {
		n := *numberOf(&one, part)
		if !numbers.Fit(n) || n != 0 && !hasPart(one.Kind, part) {
			return false
		}
	}
	return len(one.Fields) == 0 || hasPart(one.Kind, fieldsPart)
}

// Numbers answers the numbers of a type's parts, in the order in which they are written, but not how many fields it has. The type can be written.
func Numbers(one api.Type) (list []int) {
	for part := range fieldsPart {
		if hasPart(one.Kind, part) {
			list = append(list, *numberOf(&one, part))
		}
	}
	return append(list, one.Fields...)
}

// Of answers the type of a kind whose parts have the numbers of list. It is not ok if there is no such kind, or if it has not as many numbers.
func Of(kind int, list []int) (one api.Type, ok bool) {
	if kind < api.KBool || kind > api.KIter {
		return api.Type{}, false
	}
	one.Kind = kind
	for part := range fieldsPart {
		if !hasPart(kind, part) {
			continue
		}
		if len(list) == 0 {
			return api.Type{}, false
		}
		*numberOf(&one, part), list = list[0], list[1:]
	}
	if hasPart(kind, fieldsPart) {
		one.Fields, list = append(one.Fields, list...), nil
	}
	if len(list) > 0 {
		return api.Type{}, false
	}
	return one, true
}

// Write puts the numbers of a table one by one. All its types can be written.
func Write(ts []api.Type, put func(n int)) {
	put(len(ts))
	for _, one := range ts {
		put(one.Kind)
		if hasPart(one.Kind, fieldsPart) {
			put(len(one.Fields))
		}
		for _, n := range Numbers(one) {
			put(n)
		}
	}
}

// Read answers the table that r's next numbers tell, and none at a fault.
func Read(r *numbers.Reader) (ts []api.Type) {
	// Counts are not trusted with room: they may promise far more than the bytes hold.
	count := r.Next(0, numbers.Limit)
reading:
	for range count {
		one := api.Type{Kind: int(r.Next(api.KBool, api.KIter))}
		for part := range partCount {
			if r.Fault() {
				break reading
			}
			if !hasPart(one.Kind, part) {
				continue
			}
			n := r.Next(0, numbers.Limit)
			if part != fieldsPart {
				*numberOf(&one, part) = int(n)
				continue
			}
			for range n {
				f := int(r.Next(0, numbers.Limit))
				if r.Fault() {
					break reading
				}
				one.Fields = append(one.Fields, f)
			}
		}
		ts = append(ts, one)
	}
	if r.Fault() {
		return nil
	}
	return ts
}

func hasPart(kind, part int) bool {
	return partsOf[kind]>>part&1 == 1
}

// numberOf answers where a part stands that is a single number.
func numberOf(one *api.Type, part int) *int {
	switch part {
	case keyPart:
		return &one.Key
	case elemPart:
		return &one.Elem
	}
	return &one.Len
}
