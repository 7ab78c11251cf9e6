package tables_test

import (
	"math"
	"reflect"
	"slices"
	"testing"

	"heddle/api"
	"heddle/numbers"
	"heddle/tables"
)

const limit = numbers.Limit

// each has a type of each kind, whose parts are no types, with its numbers.
var each = []struct {
	one  api.Type
	told []int
}{
	{api.Type{Kind: api.KBool}, []int{1}},
	{api.Type{Kind: api.KInt}, []int{2}},
	{api.Type{Kind: api.KFloat}, []int{3}},
	{api.Type{Kind: api.KStr}, []int{4}},
	{api.Type{Kind: api.KPtr, Elem: 77}, []int{5, 77}},
	{api.Type{Kind: api.KMap, Key: 300, Elem: limit}, []int{6, 300, limit}},
	{api.Type{Kind: api.KIface}, []int{7}},
	{api.Type{Kind: api.KStruct, Fields: []int{9, limit, 0}}, []int{8, 3, 9, limit, 0}},
	{api.Type{Kind: api.KStruct}, []int{8, 0}},
	{api.Type{Kind: api.KArray, Elem: 128, Len: 127}, []int{9, 128, 127}},
	{api.Type{Kind: api.KIter, Elem: limit}, []int{10, limit}},
}

// all answers a table of all of them, and its numbers.
func all() (ts []api.Type, told []int) {
	told = []int{len(each)}
	for _, c := range each {
		ts = append(ts, c.one)
		told = append(told, c.told...)
	}
	return ts, told
}

func bytesOf(told []int) (b []byte) {
	for _, n := range told {
		b = numbers.Append(b, uint64(n))
	}
	return b
}

func TestCanWrite(t *testing.T) {
	for _, c := range each {
		for i := range 5 {
			for _, n := range []int{math.MinInt, -1, 0, 1, limit, limit + 1, math.MaxInt} {
				one := c.one
				named := true
				switch i {
				case 0:
					one.Elem, named = n, slices.Contains([]int{api.KPtr, api.KMap, api.KArray, api.KIter}, one.Kind)
				case 1:
					one.Key, named = n, one.Kind == api.KMap
				case 2:
					one.Len, named = n, one.Kind == api.KArray
				case 3:
					one.Fields, named = []int{0, n, 0}, one.Kind == api.KStruct
				case 4:
					one.Fields = []int{}
				}
				want := i == 4 || n >= 0 && n <= limit && (named || n == 0 && i != 3)
				if got := tables.CanWrite(one); got != want {
					t.Errorf("CanWrite(%v) is %v", one, got)
				}
			}
		}
	}
	for _, kind := range []int{math.MinInt, -1, 0, 11, 258, limit, math.MaxInt} {
		if tables.CanWrite(api.Type{Kind: kind}) {
			t.Errorf("kind %d can be written", kind)
		}
	}
}

func TestWrite(t *testing.T) {
	ts, want := all()
	var got []int
	tables.Write(ts, func(n int) { got = append(got, n) })
	if !slices.Equal(got, want) {
		t.Errorf("Write: %v, want %v", got, want)
	}
	got = nil
	tables.Write(nil, func(n int) { got = append(got, n) })
	if !slices.Equal(got, []int{0}) {
		t.Errorf("Write of no types: %v", got)
	}
}

// What stands behind a table is left for others.
func TestRead(t *testing.T) {
	want, told := all()
	r := numbers.Over(append(bytesOf(told), 5))
	if ts := tables.Read(r); !reflect.DeepEqual(ts, want) || r.Fault() {
		t.Errorf("Read: %v, want %v", ts, want)
	}
	if n := r.Next(0, 9); n != 5 {
		t.Errorf("behind the table stands %d", n)
	}
	if ts := tables.Read(numbers.Over([]byte{0})); len(ts) != 0 {
		t.Errorf("Read of no types: %v", ts)
	}
}

// Wherever a table is cut, or a number is wrong, it is at fault there, and there is none.
func TestReadFaults(t *testing.T) {
	_, told := all()
	for i := range told {
		front := bytesOf(told[:i])
		for _, wrong := range [][]byte{nil, {0x80}, {0x81, 0}, {0x80, 0x80, 0x80, 0x80, 8}} {
			r := numbers.Over(append(slices.Clone(front), wrong...))
			ts := tables.Read(r)
			if at, _ := r.End(); len(ts) != 0 || at != len(front) || !r.Fault() {
				t.Errorf("Read of % x and % x = %v, at %d", front, wrong, ts, at)
			}
		}
	}
	for _, kind := range []byte{0, 11, 127} {
		r := numbers.Over([]byte{2, 3, kind, 1, 1})
		ts := tables.Read(r)
		if at, _ := r.End(); len(ts) != 0 || at != 2 || !r.Fault() {
			t.Errorf("kind %d: %v, at %d", kind, ts, at)
		}
	}
}
