package types_test

import (
	"math"
	"reflect"
	"slices"
	"testing"

	"heddle/api"
	"heddle/types"
)

// example answers the table of the chapter's first example.
func example() []api.Type {
	return []api.Type{
		{Kind: api.KInt},
		{Kind: api.KStr},
		{Kind: api.KStruct, Fields: []int{0, 1}},
		{Kind: api.KPtr, Elem: 3},
		{Kind: api.KMap, Key: 2, Elem: 3},
		{Kind: api.KArray, Elem: 2, Len: 2},
		{Kind: api.KIter, Elem: 4},
	}
}

// full answers a table of n types, all of them Ints.
func full(n int) []api.Type {
	return slices.Repeat([]api.Type{{Kind: api.KInt}}, n)
}

// with answers a table of an Int, a Str, a map between them, an iterator over it, a Float, and then the types handed in, from number 5 on.
func with(more ...api.Type) []api.Type {
	return append([]api.Type{
		{Kind: api.KInt},
		{Kind: api.KStr},
		{Kind: api.KMap, Key: 0, Elem: 1},
		{Kind: api.KIter, Elem: 2},
		{Kind: api.KFloat},
	}, more...)
}

func wantCheck(t *testing.T, what string, ts []api.Type, want api.Errno) {
	t.Helper()
	if e := types.Check(ts); e != want {
		t.Errorf("Check, %s: %d, want %d", what, e, want)
	}
}

// wantType looks at all that is told of type i.
func wantType(t *testing.T, ts []api.Type, i, width int, pointers []bool, compared bool) {
	t.Helper()
	if n, e := types.Width(ts, i); n != width || e != api.OK {
		t.Errorf("Width(%v, %d) = %d, %d, want %d", ts, i, n, e, width)
	}
	if n, e := types.Words(ts, i); n != len(pointers) || e != api.OK {
		t.Errorf("Words(%v, %d) = %d, %d, want %d", ts, i, n, e, len(pointers))
	}
	if p, e := types.Pointers(ts, i); !slices.Equal(p, pointers) || e != api.OK {
		t.Errorf("Pointers(%v, %d) = %v, %d, want %v", ts, i, p, e, pointers)
	}
	if ok, e := types.Comparable(ts, i); ok != compared || e != api.OK {
		t.Errorf("Comparable(%v, %d) = %v, %d, want %v", ts, i, ok, e, compared)
	}
}

// wantError looks for an error, and nothing else, from every call with a type's number.
func wantError(t *testing.T, ts []api.Type, i int, want api.Errno) {
	t.Helper()
	if n, e := types.Width(ts, i); n != 0 || e != want {
		t.Errorf("Width(%v, %d) = %d, %d, want 0, %d", ts, i, n, e, want)
	}
	if n, e := types.Words(ts, i); n != 0 || e != want {
		t.Errorf("Words(%v, %d) = %d, %d, want 0, %d", ts, i, n, e, want)
	}
	if p, e := types.Pointers(ts, i); len(p) != 0 || e != want {
		t.Errorf("Pointers(%v, %d) = %v, %d, want nothing, %d", ts, i, p, e, want)
	}
	if ok, e := types.Comparable(ts, i); ok || e != want {
		t.Errorf("Comparable(%v, %d) = %v, %d, want false, %d", ts, i, ok, e, want)
	}
}

// P2.1: the chapter's first example.
func TestFirstExample(t *testing.T) {
	ts := example()
	wantCheck(t, "the example", ts, api.OK)
	wantType(t, ts, 0, 1, []bool{false}, true)
	wantType(t, ts, 1, 1, []bool{true, false}, true)
	wantType(t, ts, 2, 2, []bool{false, true, false}, true)
	wantType(t, ts, 3, 1, []bool{true}, true)
	wantType(t, ts, 4, 1, []bool{true}, false)
	wantType(t, ts, 5, 4, []bool{false, true, false, false, true, false}, true)
	wantType(t, ts, 6, 1, []bool{true}, false)
}

// P2.1: the chapter's third example.
func TestThirdExample(t *testing.T) {
	wantCheck(t, "a key of type KMap", []api.Type{{Kind: api.KInt}, {Kind: api.KMap}, {Kind: api.KMap, Key: 1}}, api.ErrForm)
	wantCheck(t, "a map by itself", []api.Type{{Kind: api.KMap}}, api.ErrForm)
	wantCheck(t, "a key of type KIface", []api.Type{{Kind: api.KIface}, {Kind: api.KMap}}, api.OK)
}

// P2.1: each kind by itself.
func TestKinds(t *testing.T) {
	yes, no := true, false
	wantType(t, []api.Type{{Kind: api.KBool}}, 0, 1, []bool{no}, true)
	wantType(t, []api.Type{{Kind: api.KInt}}, 0, 1, []bool{no}, true)
	wantType(t, []api.Type{{Kind: api.KFloat}}, 0, 1, []bool{no}, true)
	wantType(t, []api.Type{{Kind: api.KStr}}, 0, 1, []bool{yes, no}, true)
	wantType(t, []api.Type{{Kind: api.KIface}}, 0, 1, []bool{no, yes}, true)
	wantType(t, []api.Type{{Kind: api.KPtr}}, 0, 1, []bool{yes}, true)
	wantType(t, with(), 2, 1, []bool{yes}, false)
	wantType(t, with(), 3, 1, []bool{yes}, false)
	for _, kind := range []int{math.MinInt, -1, 0, 11, 12, 256, 258, 1<<32 + api.KInt, math.MaxInt} {
		wantCheck(t, "no kind", []api.Type{{Kind: kind}}, api.ErrForm)
		wantCheck(t, "no kind behind others", with(api.Type{Kind: kind}), api.ErrForm)
	}
}

// P2.1: the parts' words and widths, one behind the other.
func TestStructsAndArrays(t *testing.T) {
	ts := []api.Type{
		{Kind: api.KBool},
		{Kind: api.KIface},
		{Kind: api.KStruct, Fields: []int{1, 0}},
		{Kind: api.KArray, Elem: 2, Len: 3},
		{Kind: api.KStr},
		{Kind: api.KStruct, Fields: []int{4, 3, 0}},
		{Kind: api.KMap, Key: 5, Elem: 5},
		{Kind: api.KArray, Elem: 6, Len: 2},
		{Kind: api.KStruct, Fields: []int{0, 7}},
		{Kind: api.KPtr, Elem: 8},
		{Kind: api.KStruct, Fields: []int{9, 9}},
		{Kind: api.KArray, Elem: 0, Len: 1},
	}
	yes, no := true, false
	wantType(t, ts, 2, 2, []bool{no, yes, no}, true)
	wantType(t, ts, 3, 6, []bool{no, yes, no, no, yes, no, no, yes, no}, true)
	wantType(t, ts, 5, 8, []bool{yes, no, no, yes, no, no, yes, no, no, yes, no, no}, true)
	wantType(t, ts, 7, 2, []bool{yes, yes}, false)
	wantType(t, ts, 8, 3, []bool{no, yes, yes}, false)
	wantType(t, ts, 9, 1, []bool{yes}, true)
	wantType(t, ts, 10, 2, []bool{yes, yes}, true)
	wantType(t, ts, 11, 1, []bool{no}, true)
}

// P2.1: an empty table is sound, and has no types.
func TestEmptyTable(t *testing.T) {
	for _, ts := range [][]api.Type{nil, {}} {
		wantCheck(t, "an empty table", ts, api.OK)
		for _, i := range []int{math.MinInt, -1, 0, 1, math.MaxInt} {
			wantError(t, ts, i, api.ErrArg)
		}
	}
}

// P2.1: MaxTypes, and one beyond it.
func TestMaxTypes(t *testing.T) {
	ts := full(api.MaxTypes)
	wantCheck(t, "MaxTypes", ts, api.OK)
	wantType(t, ts, api.MaxTypes-1, 1, []bool{false}, true)
	wantError(t, ts, api.MaxTypes, api.ErrArg)
	wantCheck(t, "MaxTypes and one", full(api.MaxTypes+1), api.ErrForm)
	wantError(t, full(api.MaxTypes+1), 0, api.ErrForm)
	wantCheck(t, "many types", full(70000), api.ErrForm)
}

// P2.1: MaxParts, and one beyond it; none, and fewer.
func TestMaxParts(t *testing.T) {
	for n, want := range map[int]api.Errno{0: api.ErrForm, 1: api.OK, 2: api.OK, api.MaxParts: api.OK, api.MaxParts + 1: api.ErrForm, 300: api.ErrForm} {
		wantCheck(t, "fields", []api.Type{{Kind: api.KInt}, {Kind: api.KStruct, Fields: make([]int, n)}}, want)
		wantCheck(t, "elements", []api.Type{{Kind: api.KInt}, {Kind: api.KArray, Len: n}}, want)
	}
	for _, n := range []int{math.MinInt, -1, math.MaxInt, 1 << 32, 1<<32 + 1} {
		wantCheck(t, "elements", []api.Type{{Kind: api.KInt}, {Kind: api.KArray, Len: n}}, api.ErrForm)
	}
}

// P2.1: MaxWidth, and one beyond it; words may be twice as many.
func TestMaxWidth(t *testing.T) {
	base := func(more ...api.Type) []api.Type {
		return append([]api.Type{{Kind: api.KStr}, {Kind: api.KArray, Elem: 0, Len: 8}, {Kind: api.KArray, Elem: 0, Len: 5}}, more...)
	}
	widest := base(api.Type{Kind: api.KArray, Elem: 1, Len: 2}, api.Type{Kind: api.KStruct, Fields: []int{1, 2, 0, 0, 0}}, api.Type{Kind: api.KStruct, Fields: []int{3}}, api.Type{Kind: api.KArray, Elem: 5, Len: 1})
	wantCheck(t, "MaxWidth", widest, api.OK)
	for i := 3; i <= 6; i++ {
		wantType(t, widest, i, api.MaxWidth, slices.Repeat([]bool{true, false}, 16), true)
	}
	wantCheck(t, "a wide array", base(api.Type{Kind: api.KArray, Elem: 1, Len: 3}), api.ErrForm)
	wantCheck(t, "the widest array", base(api.Type{Kind: api.KArray, Elem: 1, Len: 16}), api.ErrForm)
	wantCheck(t, "a struct one too wide", base(api.Type{Kind: api.KStruct, Fields: []int{1, 1, 0}}), api.ErrForm)
	wantCheck(t, "another struct one too wide", base(api.Type{Kind: api.KStruct, Fields: []int{1, 2, 0, 0, 0, 0}}), api.ErrForm)
	wantCheck(t, "a struct of MaxParts wide fields", base(api.Type{Kind: api.KStruct, Fields: slices.Repeat([]int{1}, 16)}), api.ErrForm)
	// 17 is a prime: an array can't have it.
	wantCheck(t, "an array of one that is too wide", base(api.Type{Kind: api.KStruct, Fields: []int{1, 1, 0}}, api.Type{Kind: api.KArray, Elem: 3, Len: 1}), api.ErrForm)
}

// P2.1: widths would wrap round, if they were summed up beyond the limit.
func TestWidthsThatWouldWrap(t *testing.T) {
	ts := []api.Type{{Kind: api.KInt}}
	for i := range api.MaxTypes - 1 {
		ts = append(ts, api.Type{Kind: api.KArray, Elem: i, Len: 16})
	}
	wantCheck(t, "arrays of arrays", ts, api.ErrForm)
	wantError(t, ts, 0, api.ErrForm)
	for i := range api.MaxTypes - 1 {
		ts[i+1] = api.Type{Kind: api.KStruct, Fields: slices.Repeat([]int{i}, 16)}
	}
	wantCheck(t, "structs of structs", ts, api.ErrForm)
	wantError(t, ts, 0, api.ErrForm)
}

// P2.1: as deep as a table can be.
func TestDeepest(t *testing.T) {
	ts := []api.Type{{Kind: api.KIface}}
	for i := range api.MaxTypes - 1 {
		ts = append(ts, api.Type{Kind: api.KStruct, Fields: []int{i}})
	}
	wantType(t, ts, api.MaxTypes-1, 1, []bool{false, true}, true)
	ts[0] = api.Type{Kind: api.KMap, Key: 1, Elem: 0}
	ts[1] = api.Type{Kind: api.KInt}
	ts[2] = api.Type{Kind: api.KArray, Elem: 0, Len: 16}
	wantType(t, ts, api.MaxTypes-1, 16, slices.Repeat([]bool{true}, 16), false)
	ts[0].Key = api.MaxTypes - 1
	wantCheck(t, "a key that holds its map, deep inside", ts, api.ErrForm)
}

// P2.1: what may be named where. Type 5 is the one that is looked at, and the last but one.
func TestWhatIsNamed(t *testing.T) {
	last := api.Type{Kind: api.KInt}
	for i := -2; i <= 8; i++ {
		there := i >= 0 && i <= 6
		ok := func(yes bool) api.Errno {
			if yes {
				return api.OK
			}
			return api.ErrForm
		}
		wantCheck(t, "KPtr", with(api.Type{Kind: api.KPtr, Elem: i}, last), ok(there && i != 3))
		wantCheck(t, "KMap to", with(api.Type{Kind: api.KMap, Elem: i}, last), ok(there && i != 3))
		wantCheck(t, "KMap from", with(api.Type{Kind: api.KMap, Key: i}, last), ok(there && i != 3 && i != 2 && i != 5))
		wantCheck(t, "KIter", with(api.Type{Kind: api.KIter, Elem: i}, last), ok(i == 2))
		wantCheck(t, "KArray", with(api.Type{Kind: api.KArray, Elem: i, Len: 2}, last), ok(i >= 0 && i < 5 && i != 3))
		wantCheck(t, "KStruct", with(api.Type{Kind: api.KStruct, Fields: []int{i}}, last), ok(i >= 0 && i < 5 && i != 3))
		wantCheck(t, "KStruct, the last field", with(api.Type{Kind: api.KStruct, Fields: []int{0, 2, i}}, last), ok(i >= 0 && i < 5 && i != 3))
		wantCheck(t, "KStruct, the first field", with(api.Type{Kind: api.KStruct, Fields: []int{i, 2, 0}}, last), ok(i >= 0 && i < 5 && i != 3))
	}
	for _, i := range []int{math.MinInt, -1 << 32, 1 << 32, math.MaxInt} {
		for _, one := range []api.Type{{Kind: api.KPtr, Elem: i}, {Kind: api.KMap, Elem: i}, {Kind: api.KMap, Key: i}, {Kind: api.KIter, Elem: i}, {Kind: api.KArray, Elem: i, Len: 1}, {Kind: api.KStruct, Fields: []int{0, i}}} {
			wantCheck(t, "a number at its end", with(one, last), api.ErrForm)
		}
	}
}

// P2.1: a pointer, a map and an iterator may name later types.
func TestLaterTypes(t *testing.T) {
	wantCheck(t, "a pointer to a later pointer to it", []api.Type{{Kind: api.KPtr, Elem: 1}, {Kind: api.KPtr, Elem: 0}}, api.OK)
	wantCheck(t, "a pointer to a later struct of it", []api.Type{{Kind: api.KPtr, Elem: 1}, {Kind: api.KStruct, Fields: []int{0}}}, api.OK)
	wantCheck(t, "a pointer to a later iterator", []api.Type{{Kind: api.KPtr, Elem: 2}, {Kind: api.KMap, Key: 0, Elem: 0}, {Kind: api.KIter, Elem: 1}}, api.ErrForm)
	wantCheck(t, "an iterator over a later map", []api.Type{{Kind: api.KIter, Elem: 2}, {Kind: api.KInt}, {Kind: api.KMap, Key: 1, Elem: 1}}, api.OK)
	wantCheck(t, "a map to itself", []api.Type{{Kind: api.KMap, Key: 1, Elem: 0}, {Kind: api.KBool}}, api.OK)
	wantCheck(t, "a map by a later pointer to it", []api.Type{{Kind: api.KMap, Key: 1, Elem: 1}, {Kind: api.KPtr, Elem: 0}}, api.OK)
	wantCheck(t, "a map by a later struct of it", []api.Type{{Kind: api.KMap, Key: 1, Elem: 1}, {Kind: api.KStruct, Fields: []int{0}}}, api.ErrForm)
	wantCheck(t, "a map by a later array of it", []api.Type{{Kind: api.KMap, Key: 1, Elem: 1}, {Kind: api.KArray, Elem: 0, Len: 1}}, api.ErrForm)
	wantCheck(t, "a map by a later struct", []api.Type{{Kind: api.KMap, Key: 2, Elem: 2}, {Kind: api.KFloat}, {Kind: api.KStruct, Fields: []int{1, 1}}}, api.OK)
	wantCheck(t, "a map by a later map", []api.Type{{Kind: api.KMap, Key: 1, Elem: 2}, {Kind: api.KMap, Key: 2, Elem: 2}, {Kind: api.KInt}}, api.ErrForm)
	wantCheck(t, "a map by a later struct whose second field is a map", []api.Type{{Kind: api.KMap, Key: 2, Elem: 1}, {Kind: api.KInt}, {Kind: api.KStruct, Fields: []int{1, 0, 1}}}, api.ErrForm)
	wantCheck(t, "a struct of itself", []api.Type{{Kind: api.KStruct, Fields: []int{0}}}, api.ErrForm)
	wantCheck(t, "an array of itself", []api.Type{{Kind: api.KArray, Len: 1}}, api.ErrForm)
	wantCheck(t, "a struct of a later one", []api.Type{{Kind: api.KStruct, Fields: []int{1}}, {Kind: api.KInt}}, api.ErrForm)
	wantCheck(t, "an array of a later one", []api.Type{{Kind: api.KArray, Elem: 1, Len: 1}, {Kind: api.KInt}}, api.ErrForm)
}

// P2.1: a field that a kind has not is zero.
func TestFieldsThatMustBeZero(t *testing.T) {
	// Each is sound, and names nothing that a 0 could not name too.
	sound := []api.Type{{Kind: api.KBool}, {Kind: api.KInt}, {Kind: api.KFloat}, {Kind: api.KStr}, {Kind: api.KIface}, {Kind: api.KPtr}, {Kind: api.KMap}, {Kind: api.KStruct, Fields: []int{0}}, {Kind: api.KArray, Len: 1}, {Kind: api.KIter, Elem: 2}}
	named := map[int]string{api.KPtr: "Elem", api.KMap: "Key Elem", api.KStruct: "Fields", api.KArray: "Elem Len", api.KIter: "Elem"}
	changes := map[string]func(*api.Type, int){
		"Elem":   func(one *api.Type, n int) { one.Elem = n },
		"Key":    func(one *api.Type, n int) { one.Key = n },
		"Len":    func(one *api.Type, n int) { one.Len = n },
		"Fields": func(one *api.Type, n int) { one.Fields = []int{n} },
	}
	for _, one := range sound {
		wantCheck(t, "without changes", with(one), api.OK)
		one.Fields = slices.Concat([]int{}, one.Fields)
		wantCheck(t, "with an empty list of fields", with(one), api.OK)
		for name, change := range changes {
			if slices.Contains(splitWords(named[one.Kind]), name) {
				continue
			}
			for _, n := range []int{1, 2, -1, math.MaxInt, math.MinInt, 1 << 32} {
				changed := one
				change(&changed, n)
				wantCheck(t, name, with(changed), api.ErrForm)
			}
		}
		if one.Kind != api.KStruct {
			one.Fields = []int{0}
			wantCheck(t, "a field that is 0", with(one), api.ErrForm)
		}
	}
}

func splitWords(text string) (list []string) {
	word := ""
	for _, r := range text + " " {
		if r != ' ' {
			word += string(r)
			continue
		}
		list = append(list, word)
		word = ""
	}
	return list
}

// P2.1, R2, R3: ErrForm stands ahead of ErrArg, and there is nothing beside an error.
func TestWhichError(t *testing.T) {
	unsound := append(example(), api.Type{Kind: 11})
	for _, i := range []int{math.MinInt, -1, 0, 6, 7, 8, math.MaxInt} {
		wantError(t, unsound, i, api.ErrForm)
	}
	for _, i := range []int{math.MinInt, -1 << 32, -1, 7, 8, api.MaxTypes - 1, api.MaxTypes, 1 << 32, math.MaxInt} {
		wantError(t, example(), i, api.ErrArg)
	}
}

// pieces are types of which all tables of up to three are made.
func pieces() []api.Type {
	list := []api.Type{{}, {Kind: 11}, {Kind: api.KInt}, {Kind: api.KStr}, {Kind: api.KIface}, {Kind: api.KInt, Elem: 1}, {Kind: api.KIface, Fields: []int{0}}}
	for i := -1; i <= 3; i++ {
		list = append(list, api.Type{Kind: api.KPtr, Elem: i}, api.Type{Kind: api.KIter, Elem: i}, api.Type{Kind: api.KStruct, Fields: []int{i}}, api.Type{Kind: api.KStruct, Fields: []int{0, i}}, api.Type{Kind: api.KArray, Elem: i, Len: 4}, api.Type{Kind: api.KArray, Elem: i, Len: 5})
		for j := range 3 {
			list = append(list, api.Type{Kind: api.KMap, Key: i, Elem: j})
		}
	}
	return append(list, api.Type{Kind: api.KMap, Key: 0, Elem: 3}, api.Type{Kind: api.KStruct}, api.Type{Kind: api.KArray, Len: 0})
}

// tables hands on all tables of up to three pieces.
func tables(use func(ts []api.Type)) {
	list := pieces()
	use(nil)
	for _, one := range list {
		use([]api.Type{one})
		for _, two := range list {
			use([]api.Type{one, two})
			for _, three := range list {
				use([]api.Type{one, two, three})
			}
		}
	}
}

// model tells the chapter's words of a table by asking down from each type, without keeping anything.
type model []api.Type

func (m model) sound() bool {
	for t := range m {
		if !m.soundAt(t) {
			return false
		}
	}
	return len(m) <= 64
}

func (m model) holds(t, below int) bool {
	return t >= 0 && t < below && m[t].Kind != api.KIter
}

func (m model) soundAt(t int) bool {
	one, n := m[t], len(m)
	bare := api.Type{Kind: one.Kind}
	switch one.Kind {
	case api.KBool, api.KInt, api.KFloat, api.KStr, api.KIface:
	case api.KPtr:
		bare.Elem = one.Elem
		if !m.holds(one.Elem, n) {
			return false
		}
	case api.KMap:
		bare.Elem, bare.Key = one.Elem, one.Key
		if !m.holds(one.Elem, n) || !m.holds(one.Key, n) || !m.compared(one.Key, n) {
			return false
		}
	case api.KIter:
		bare.Elem = one.Elem
		if one.Elem < 0 || one.Elem >= n || m[one.Elem].Kind != api.KMap {
			return false
		}
	case api.KStruct:
		bare.Fields = one.Fields
		for _, f := range one.Fields {
			if !m.holds(f, t) {
				return false
			}
		}
		if len(one.Fields) == 0 || len(one.Fields) > 16 {
			return false
		}
	case api.KArray:
		bare.Elem, bare.Len = one.Elem, one.Len
		if one.Len < 1 || one.Len > 16 || !m.holds(one.Elem, t) {
			return false
		}
	default:
		return false
	}
	return reflect.DeepEqual(one, bare) && m.width(t) <= 16
}

// compared may be asked of types that are not sound: those that are not earlier than the one that they are parts of count as if they were not compared.
func (m model) compared(t, below int) bool {
	if t < 0 || t >= below {
		return false
	}
	switch one := m[t]; one.Kind {
	case api.KMap, api.KIter:
		return false
	case api.KArray:
		return m.compared(one.Elem, t)
	case api.KStruct:
		for _, f := range one.Fields {
			if !m.compared(f, t) {
				return false
			}
		}
	}
	return true
}

func (m model) width(t int) int {
	n := 0
	switch one := m[t]; one.Kind {
	case api.KStruct:
		for _, f := range one.Fields {
			n += m.width(f)
		}
	case api.KArray:
		for range one.Len {
			n += m.width(one.Elem)
		}
	default:
		n = 1
	}
	return n
}

func (m model) pointers(t int) (list []bool) {
	switch one := m[t]; one.Kind {
	case api.KBool, api.KInt, api.KFloat:
		list = []bool{false}
	case api.KStr:
		list = []bool{true, false}
	case api.KIface:
		list = []bool{false, true}
	case api.KStruct:
		for _, f := range one.Fields {
			list = append(list, m.pointers(f)...)
		}
	case api.KArray:
		list = slices.Repeat(m.pointers(one.Elem), one.Len)
	default:
		list = []bool{true}
	}
	return list
}

// P2.1, held against the model.
func TestAllSmallTables(t *testing.T) {
	count := map[api.Errno]int{}
	tables(func(ts []api.Type) {
		m := model(ts)
		if !m.sound() {
			count[api.ErrForm]++
			wantCheck(t, "a small table", ts, api.ErrForm)
			return
		}
		count[api.OK]++
		wantCheck(t, "a small table", ts, api.OK)
		for i := range ts {
			wantType(t, ts, i, m.width(i), m.pointers(i), m.compared(i, len(ts)))
		}
		wantError(t, ts, len(ts), api.ErrArg)
	})
	if count[api.OK] < 1000 || count[api.ErrForm] < 1000 {
		t.Errorf("the small tables are too much alike: %v", count)
	}
}

// roomy answers a table whose lists have spare room that is not zero, and the whole of it.
func roomy() (ts, whole []api.Type) {
	whole = append(example(), api.Type{Kind: 77, Elem: 78, Fields: []int{79}}, api.Type{Kind: 80})
	whole[2].Fields = []int{0, 1, 81, 82}[:2]
	return whole[:7], whole
}

// deep answers a copy of a table and of all spare room of its lists.
func deep(ts []api.Type) []api.Type {
	ts = slices.Clone(ts[:cap(ts)])
	for i, one := range ts {
		ts[i].Fields = slices.Clone(one.Fields[:cap(one.Fields)])
	}
	return ts
}

// R4: tables that are handed in stay as they are, spare room too.
func TestTablesStayAsTheyAre(t *testing.T) {
	ts, whole := roomy()
	before := deep(whole)
	types.Check(ts)
	for i := -1; i <= 7; i++ {
		types.Width(ts, i)
		types.Words(ts, i)
		types.Pointers(ts, i)
		types.Comparable(ts, i)
	}
	b, e := types.Encode(ts)
	if e != api.OK {
		t.Fatalf("Encode: %d", e)
	}
	for i := range b[:cap(b)] {
		b[:cap(b)][i] = 0xee
	}
	if !reflect.DeepEqual(deep(whole), before) {
		t.Errorf("what was handed in has changed: %v, was %v", whole, before)
	}
}

// R4: each list that Pointers answers is memory of its own.
func TestPointersIsNotShared(t *testing.T) {
	for i := range example() {
		first, _ := types.Pointers(example(), i)
		second, _ := types.Pointers(example(), i)
		before := slices.Clone(second)
		all := first[:cap(first)]
		for j := range all {
			all[j] = !all[j]
		}
		third, _ := types.Pointers(example(), i)
		if !slices.Equal(second, before) || !slices.Equal(third, before) {
			t.Errorf("Pointers of %d changed with another answer: %v, %v, want %v", i, second, third, before)
		}
	}
}
