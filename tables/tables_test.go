package tables_test

import (
	"math"
	"reflect"
	"slices"
	"testing"

	"heddle/api"
	"heddle/numbers"
	"heddle/tables"
)

const limit = numbers.Limit

// typed is a type with its numbers.
type typed struct {
	one  api.Type
	told []int
}

// each has a type of each kind, whose parts are no types.
var each = []typed{
	{api.Type{Kind: api.KBool}, []int{1}},
	{api.Type{Kind: api.KInt}, []int{2}},
	{api.Type{Kind: api.KFloat}, []int{3}},
	{api.Type{Kind: api.KStr}, []int{4}},
	{api.Type{Kind: api.KPtr, Elem: 77}, []int{5, 77}},
	{api.Type{Kind: api.KMap, Key: 300, Elem: limit}, []int{6, 300, limit}},
	{api.Type{Kind: api.KIface}, []int{7}},
	{api.Type{Kind: api.KStruct, Fields: []int{9, limit, 0}}, []int{8, 3, 9, limit, 0}},
	{api.Type{Kind: api.KStruct}, []int{8, 0}},
	{api.Type{Kind: api.KArray, Elem: 128, Len: 127}, []int{9, 128, 127}},
	{api.Type{Kind: api.KIter, Elem: limit}, []int{10, limit}},
}

// all answers a table of all of them, and its numbers.
func all() (ts []api.Type, told []int) {
	told = []int{len(each)}
	for _, c := range each {
		ts = append(ts, c.one)
		told = append(told, c.told...)
	}
	return ts, told
}

func bytesOf(told []int) (b []byte) {
	for _, n := range told {
		b = numbers.Append(b, uint64(n))
	}
	return b
}

func TestCanWrite(t *testing.T) {
	for _, c := range each {
		for i := range 5 {
			for _, n := range []int{math.MinInt, -1, 0, 1, limit, limit + 1, math.MaxInt} {
				one := c.one
				named := true
				switch i {
				case 0:
					one.Elem, named = n, slices.Contains([]int{api.KPtr, api.KMap, api.KArray, api.KIter}, one.Kind)
				case 1:
					one.Key, named = n, one.Kind == api.KMap
				case 2:
					one.Len, named = n, one.Kind == api.KArray
				case 3:
					one.Fields, named = []int{0, n, 0}, one.Kind == api.KStruct
				case 4:
					one.Fields = []int{}
				}
				want := i == 4 || n >= 0 && n <= limit && (named || n == 0 && i != 3)
				if got := tables.CanWrite(one); got != want {
					t.Errorf("CanWrite(%v) is %v", one, got)
				}
			}
		}
	}
	for _, kind := range []int{math.MinInt, -1, 0, 11, 258, limit, math.MaxInt} {
		if tables.CanWrite(api.Type{Kind: kind}) {
			t.Errorf("kind %d can be written", kind)
		}
	}
}

// numbersOf answers what Numbers has to, of a type with its numbers.
func numbersOf(one api.Type, told []int) []int {
	if one.Kind == api.KStruct {
		return told[2:]
	}
	return told[1:]
}

// There and back: a type by its kind and its numbers.
func TestNumbersAndOf(t *testing.T) {
	for _, c := range each {
		want := numbersOf(c.one, c.told)
		list := tables.Numbers(c.one)
		if !slices.Equal(list, want) {
			t.Errorf("Numbers(%v) = %v, want %v", c.one, list, want)
		}
		one, ok := tables.Of(c.one.Kind, want)
		if !reflect.DeepEqual(one, c.one) || !ok {
			t.Errorf("Of(%d, %v) = %v, %v", c.one.Kind, want, one, ok)
		}
	}
}

// A kind that is none, and as many numbers as a kind has not.
func TestOfNothing(t *testing.T) {
	for kind := -1; kind <= 12; kind++ {
		for count := range 5 {
			list := []int{1, 2, 3, 4}[:count]
			as := slices.IndexFunc(each, func(c typed) bool { return c.one.Kind == kind })
			want := as >= 0 && (kind == api.KStruct || len(each[as].told) == 1+count)
			one, ok := tables.Of(kind, list)
			if ok != want || !ok && !reflect.DeepEqual(one, api.Type{}) {
				t.Errorf("Of(%d, %v) = %v, %v", kind, list, one, ok)
			}
		}
	}
	for _, kind := range []int{math.MinInt, 256 + 2, math.MaxInt} {
		if one, ok := tables.Of(kind, nil); ok || one.Kind != 0 {
			t.Errorf("Of(%d) = %v", kind, one)
		}
	}
}

// A type's fields and the numbers that it is made of share no memory, spare room included.
func TestNumbersAreCopies(t *testing.T) {
	list := []int{1, 2, 3, 4}
	one, _ := tables.Of(api.KStruct, list[:2])
	list[0] = 9
	_ = append(one.Fields, 7)
	if !slices.Equal(one.Fields, []int{1, 2}) || list[2] != 3 {
		t.Errorf("%v, %v", one, list)
	}
	told := tables.Numbers(one)
	told[0] = 8
	if one.Fields[0] != 1 {
		t.Errorf("the type has changed: %v", one)
	}
}

func TestWrite(t *testing.T) {
	ts, want := all()
	var got []int
	tables.Write(ts, func(n int) { got = append(got, n) })
	if !slices.Equal(got, want) {
		t.Errorf("Write: %v, want %v", got, want)
	}
	got = nil
	tables.Write(nil, func(n int) { got = append(got, n) })
	if !slices.Equal(got, []int{0}) {
		t.Errorf("Write of no types: %v", got)
	}
}

// What stands behind a table is left for others.
func TestRead(t *testing.T) {
	want, told := all()
	r := numbers.Over(append(bytesOf(told), 5))
	if ts := tables.Read(r); !reflect.DeepEqual(ts, want) || r.Fault() {
		t.Errorf("Read: %v, want %v", ts, want)
	}
	if n := r.Next(0, 9); n != 5 {
		t.Errorf("behind the table stands %d", n)
	}
	if ts := tables.Read(numbers.Over([]byte{0})); len(ts) != 0 {
		t.Errorf("Read of no types: %v", ts)
	}
}

// Wherever a table is cut, or a number is wrong, it is at fault there, and there is none.
func TestReadFaults(t *testing.T) {
	_, told := all()
	for i := range told {
		front := bytesOf(told[:i])
		for _, wrong := range [][]byte{nil, {0x80}, {0x81, 0}, {0x80, 0x80, 0x80, 0x80, 8}} {
			r := numbers.Over(append(slices.Clone(front), wrong...))
			ts := tables.Read(r)
			if at, _ := r.End(); len(ts) != 0 || at != len(front) || !r.Fault() {
				t.Errorf("Read of % x and % x = %v, at %d", front, wrong, ts, at)
			}
		}
	}
	for _, kind := range []byte{0, 11, 127} {
		r := numbers.Over([]byte{2, 3, kind, 1, 1})
		ts := tables.Read(r)
		if at, _ := r.End(); len(ts) != 0 || at != 2 || !r.Fault() {
			t.Errorf("kind %d: %v, at %d", kind, ts, at)
		}
	}
}
