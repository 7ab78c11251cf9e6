package types_test

import (
	"bytes"
	"reflect"
	"slices"
	"testing"

	"heddle/api"
	"heddle/types"
)

// most is the highest number that may be written, and above one more.
var (
	most  = []byte{0xff, 0xff, 0xff, 0xff, 7}
	above = []byte{0x80, 0x80, 0x80, 0x80, 8}
)

func wantEncode(t *testing.T, ts []api.Type, want []byte) {
	t.Helper()
	if b, e := types.Encode(ts); !bytes.Equal(b, want) || e != api.OK {
		t.Errorf("Encode(%v) = %v, %d, want %v", ts, b, e, want)
	}
}

func wantDecode(t *testing.T, b []byte, want []api.Type) {
	t.Helper()
	if ts, at, e := types.Decode(b); !sameTable(ts, want) || at != 0 || e != api.OK {
		t.Errorf("Decode(%v) = %v, %d, %d, want %v", b, ts, at, e, want)
	}
}

func wantFault(t *testing.T, b []byte, at int, e api.Errno) {
	t.Helper()
	if ts, gotAt, gotE := types.Decode(b); len(ts) != 0 || gotAt != at || gotE != e {
		t.Errorf("Decode(% x) = %v, %d, %d, want nothing, %d, %d", b[:min(len(b), 50)], ts, gotAt, gotE, at, e)
	}
}

// sameTable holds tables against each other. Lists that are nil and empty are the same.
func sameTable(ts, us []api.Type) bool {
	return slices.EqualFunc(ts, us, func(one, two api.Type) bool {
		same := slices.Equal(one.Fields, two.Fields)
		one.Fields, two.Fields = nil, nil
		return same && reflect.DeepEqual(one, two)
	})
}

func join(lists ...[]byte) []byte {
	return slices.Concat(lists...)
}

// P2.2, P2.3: the chapter's second example.
func TestSecondExample(t *testing.T) {
	b := []byte{7, 2, 4, 8, 2, 0, 1, 5, 3, 6, 2, 3, 9, 2, 2, 10, 4}
	wantEncode(t, example(), b)
	wantDecode(t, b, example())
	wantFault(t, []byte{1, 11}, 1, api.ErrText)
	wantFault(t, []byte{1, 2, 0}, 2, api.ErrText)
	wantFault(t, []byte{1}, 1, api.ErrText)
	wantFault(t, []byte{0x81, 0}, 0, api.ErrText)
	wantFault(t, []byte{1, 8, 1, 0}, 0, api.ErrForm)
}

// P2.2, P2.3: each kind has its numbers, in the chapter's order.
func TestKindsAsBytes(t *testing.T) {
	for one, b := range map[*api.Type][]byte{
		{Kind: api.KBool}:                          {1},
		{Kind: api.KInt}:                           {2},
		{Kind: api.KFloat}:                         {3},
		{Kind: api.KStr}:                           {4},
		{Kind: api.KPtr, Elem: 1}:                  {5, 1},
		{Kind: api.KMap, Key: 4, Elem: 1}:          {6, 4, 1},
		{Kind: api.KIface}:                         {7},
		{Kind: api.KStruct, Fields: []int{4}}:      {8, 1, 4},
		{Kind: api.KStruct, Fields: []int{4, 1}}:   {8, 2, 4, 1},
		{Kind: api.KArray, Elem: 4, Len: 3}:        {9, 4, 3},
		{Kind: api.KIter, Elem: 2}:                 {10, 2},
		{Kind: api.KStruct, Fields: []int{0, 0}}:   {8, 2, 0, 0},
		{Kind: api.KArray, Elem: 0, Len: 16}:       {9, 0, 16},
		{Kind: api.KPtr, Elem: 5}:                  {5, 5},
		{Kind: api.KMap, Key: 1, Elem: 5}:          {6, 1, 5},
		{Kind: api.KPtr, Elem: 0, Fields: []int{}}: {5, 0},
	} {
		whole := join([]byte{6, 2, 4, 6, 0, 1, 10, 2, 3}, b)
		wantEncode(t, with(*one), whole)
		wantDecode(t, whole, with(*one))
	}
}

// P2.2, P2.3: the empty table, and the largest ones.
func TestTablesAtTheirLimits(t *testing.T) {
	wantEncode(t, nil, []byte{0})
	wantEncode(t, []api.Type{}, []byte{0})
	wantDecode(t, []byte{0}, nil)
	wantEncode(t, full(api.MaxTypes), join([]byte{64}, bytes.Repeat([]byte{2}, 64)))
	wantDecode(t, join([]byte{64}, bytes.Repeat([]byte{2}, 64)), full(api.MaxTypes))
	wantFault(t, join([]byte{65}, bytes.Repeat([]byte{2}, 65)), 0, api.ErrForm)
	widest := append(full(63), api.Type{Kind: api.KStruct, Fields: slices.Repeat([]int{62}, 16)})
	b := join([]byte{64}, bytes.Repeat([]byte{2}, 63), []byte{8, 16}, bytes.Repeat([]byte{62}, 16))
	wantEncode(t, widest, b)
	wantDecode(t, b, widest)
	wantFault(t, join([]byte{2, 2, 8, 17}, make([]byte, 17)), 0, api.ErrForm)
	wantFault(t, []byte{2, 2, 8, 0}, 0, api.ErrForm)
	wantFault(t, []byte{2, 2, 9, 0, 17}, 0, api.ErrForm)
	wantFault(t, []byte{2, 2, 9, 0, 0}, 0, api.ErrForm)
	wantFault(t, []byte{3, 2, 9, 0, 9, 9, 1, 2}, 0, api.ErrForm)
}

// P2.2, R3: a table that is not sound has no bytes.
func TestEncodeUnsound(t *testing.T) {
	for _, ts := range [][]api.Type{{{}}, {{Kind: 11}}, {{Kind: api.KInt, Len: 1}}, {{Kind: api.KMap}}, {{Kind: api.KPtr, Elem: -1}}, {{Kind: api.KPtr, Elem: 1}}, full(65)} {
		if b, e := types.Encode(ts); len(b) != 0 || e != api.ErrForm {
			t.Errorf("Encode(%v) = %v, %d, want nothing, ErrForm", ts, b, e)
		}
	}
}

// P2.3: the bytes end too early, wherever they are cut. What is at fault is the number that would be next.
func TestDecodeCut(t *testing.T) {
	b, _ := types.Encode(example())
	for n := range b {
		wantFault(t, b[:n], n, api.ErrText)
		wantFault(t, join(b[:n], []byte{0x80}), n, api.ErrText)
		wantFault(t, join(b[:n], []byte{0xff, 0x80, 0xff}), n, api.ErrText)
	}
	wantFault(t, nil, 0, api.ErrText)
	wantFault(t, []byte{}, 0, api.ErrText)
	wantFault(t, most, 5, api.ErrText)
	wantFault(t, join(most, []byte{2, 2, 2}), 8, api.ErrText)
	wantFault(t, join([]byte{1, 8}, most), 7, api.ErrText)
	wantFault(t, join([]byte{1, 8}, most, []byte{0, 0}), 9, api.ErrText)
}

// P2.3: a number that is not written as told, or too high, at every place at which one can stand.
func TestDecodeWrongNumbers(t *testing.T) {
	b, _ := types.Encode(example())
	for n := range b {
		for _, wrong := range [][]byte{
			{b[n] | 0x80, 0},
			{b[n] | 0x80, 0x80, 0},
			{0x80, 0},
			above,
			{0xff, 0xff, 0xff, 0xff, 0x0f},
			{0xff, 0xff, 0xff, 0xff, 0x7f},
			{b[n] | 0x80, 0x80, 0x80, 0x80, 0x80, 1},
			{b[n] | 0x80, 0x80, 0x80, 0x80, 0x80, 0},
			join([]byte{b[n] | 0x80}, bytes.Repeat([]byte{0x80}, 8), []byte{2}),
			join([]byte{b[n] | 0x80}, bytes.Repeat([]byte{0x80}, 20), []byte{1}),
			join([]byte{b[n] | 0x80}, bytes.Repeat([]byte{0x80}, 20), []byte{0}),
		} {
			wantFault(t, join(b[:n], wrong, b[n+1:]), n, api.ErrText)
		}
	}
}

// P2.3: numbers at the limit are read. Then the table is not sound.
func TestDecodeNumbersAtTheLimit(t *testing.T) {
	for _, kind := range []byte{api.KPtr, api.KIter} {
		wantFault(t, join([]byte{1, kind}, most), 0, api.ErrForm)
		wantFault(t, join([]byte{1, kind}, above), 2, api.ErrText)
	}
	for _, kind := range []byte{api.KMap, api.KArray} {
		wantFault(t, join([]byte{1, kind}, most, []byte{0}), 0, api.ErrForm)
		wantFault(t, join([]byte{1, kind, 0}, most), 0, api.ErrForm)
		wantFault(t, join([]byte{1, kind}, above, []byte{0}), 2, api.ErrText)
		wantFault(t, join([]byte{1, kind, 0}, above), 3, api.ErrText)
		wantFault(t, join([]byte{1, kind}, most, above), 7, api.ErrText)
	}
	wantFault(t, join([]byte{1, 8, 2, 0}, most), 0, api.ErrForm)
	wantFault(t, join([]byte{1, 8, 2}, most, most), 0, api.ErrForm)
	wantFault(t, join([]byte{1, 8, 2}, most, above), 8, api.ErrText)
	// Numbers of two bytes are read as such.
	wantFault(t, []byte{2, 5, 0x81, 1, 2}, 0, api.ErrForm)
	wantFault(t, []byte{2, 5, 0x81, 1, 11}, 4, api.ErrText)
}

// P2.3: a Kind that is none, ahead of what follows.
func TestDecodeKinds(t *testing.T) {
	for _, kind := range [][]byte{{0}, {11}, {12}, {127}, {0x80, 1}, {0x82, 1}, {0x80, 2}, {0x82, 2}, most} {
		wantFault(t, join([]byte{1}, kind), 1, api.ErrText)
		wantFault(t, join([]byte{1}, kind, []byte{0x80, 0}), 1, api.ErrText)
		wantFault(t, join([]byte{3, 6, 0, 0}, kind, []byte{2, 0, 0}), 4, api.ErrText)
	}
}

// P2.3: bytes left over, ahead of a table that is not sound.
func TestDecodeLeftOver(t *testing.T) {
	b, _ := types.Encode(example())
	for _, more := range [][]byte{{0}, {2}, {0x80}, {0xff, 0xff}, bytes.Repeat([]byte{2}, 1000)} {
		wantFault(t, join(b, more), len(b), api.ErrText)
		wantFault(t, join([]byte{0}, more), 1, api.ErrText)
		wantFault(t, join([]byte{1, 8, 0}, more), 3, api.ErrText)
		wantFault(t, join([]byte{1, 8, 1, 0}, more), 4, api.ErrText)
		wantFault(t, join([]byte{1, 5, 9}, more), 3, api.ErrText)
	}
}

// P2.3: MaxBytes, and one more byte.
func TestDecodeTooManyBytes(t *testing.T) {
	// 65533 types take all the bytes but the three of the count.
	count := []byte{0xfd, 0xff, 3}
	wantFault(t, join(count, bytes.Repeat([]byte{2}, 65533)), 0, api.ErrForm)
	wantFault(t, join(count, bytes.Repeat([]byte{2}, 65534)), 0, api.ErrLarge)
	wantFault(t, join(count, bytes.Repeat([]byte{2}, 65532), []byte{11}), 65535, api.ErrText)
	wantFault(t, join(count, bytes.Repeat([]byte{2}, 65532)), 65535, api.ErrText)
	wantFault(t, join([]byte{1, 8, 0xfb, 0xff, 3}, make([]byte, 65531)), 0, api.ErrForm)
	wantFault(t, make([]byte, api.MaxBytes), 1, api.ErrText)
	wantFault(t, make([]byte, api.MaxBytes+1), 0, api.ErrLarge)
	wantFault(t, bytes.Repeat([]byte{0x80}, api.MaxBytes), 0, api.ErrText)
	wantFault(t, bytes.Repeat([]byte{0x80}, api.MaxBytes+1), 0, api.ErrLarge)
	wantFault(t, make([]byte, 1<<20), 0, api.ErrLarge)
}

// P2.2, P2.3, P2: there and back.
func TestThereAndBack(t *testing.T) {
	tables(func(ts []api.Type) {
		b, e := types.Encode(ts)
		if model(ts).sound() {
			if e != api.OK {
				t.Errorf("Encode(%v): %d", ts, e)
			}
			wantDecode(t, b, ts)
			return
		}
		if len(b) != 0 || e != api.ErrForm {
			t.Errorf("Encode(%v) = %v, %d, want nothing, ErrForm", ts, b, e)
		}
	})
}

// fault is where the model of Decode stops.
type fault int

// modelDecode reads all numbers with their places first, and makes the table of them then.
func modelDecode(b []byte) (ts []api.Type, at int, e api.Errno) {
	defer func() {
		if f, ok := recover().(fault); ok {
			ts, at, e = nil, int(f), api.ErrText
		}
	}()
	places, values := modelNumbers(b)
	next := func() int {
		at = places[0]
		if values[0] < 0 {
			panic(fault(at))
		}
		n := values[0]
		places, values = places[1:], values[1:]
		return n
	}
	for count := next(); count > 0; count-- {
		one := api.Type{Kind: next()}
		switch one.Kind {
		case 1, 2, 3, 4, 7:
		case 5, 10:
			one.Elem = next()
		case 6:
			one.Key = next()
			one.Elem = next()
		case 8:
			for fields := next(); fields > 0; fields-- {
				one.Fields = append(one.Fields, next())
			}
		case 9:
			one.Elem = next()
			one.Len = next()
		default:
			panic(fault(at))
		}
		ts = append(ts, one)
	}
	if places[0] != len(b) {
		panic(fault(places[0]))
	}
	if !model(ts).sound() {
		return nil, 0, api.ErrForm
	}
	return ts, 0, api.OK
}

// modelNumbers answers the numbers of b with their places. The last one, with the value -1, is wrong or the bytes' end.
func modelNumbers(b []byte) (places, values []int) {
	at := 0
	for at < len(b) {
		end := at
		for end < len(b) && b[end] >= 0x80 {
			end++
		}
		if end == len(b) || end > at && b[end] == 0 || end > at+4 {
			break
		}
		n := 0
		for i := end; i >= at; i-- {
			n = n*128 + int(b[i])%128
		}
		if n > 2147483647 {
			break
		}
		places, values = append(places, at), append(values, n)
		at = end + 1
	}
	return append(places, at), append(values, -1)
}

// P2.3, held against the model, at all lists of up to six of the bytes that matter.
func TestAllShortBytes(t *testing.T) {
	count := map[api.Errno]int{}
	var grow func(b []byte)
	grow = func(b []byte) {
		want, at, e := modelDecode(b)
		count[e]++
		if e == api.OK {
			wantDecode(t, b, want)
		} else {
			wantFault(t, b, at, e)
		}
		if len(b) == 6 || t.Failed() {
			return
		}
		for _, c := range []byte{0, 1, 2, 5, 6, 8, 9, 10, 11, 0x80, 0x81} {
			grow(append(b, c))
		}
	}
	grow(make([]byte, 0, 6))
	if count[api.OK] < 50 || count[api.ErrForm] < 50 || count[api.ErrText] < 50 {
		t.Errorf("the short lists are too much alike: %v", count)
	}
}

// R4: bytes that are handed in stay as they are and are not kept, spare room too.
func TestBytesStayAsTheyAre(t *testing.T) {
	encoded, _ := types.Encode(example())
	whole := join(encoded, []byte{0xee, 0xee, 0xee})
	handed := whole[:len(encoded)]
	ts, _, e := types.Decode(handed)
	if e != api.OK || !bytes.Equal(whole, join(encoded, []byte{0xee, 0xee, 0xee})) {
		t.Fatalf("Decode: %d; what was handed in is now %v", e, whole)
	}
	for i := range whole {
		whole[i] = 0xdd
	}
	if !sameTable(ts, example()) {
		t.Errorf("the table changed with the bytes: %v", ts)
	}
	for n := range encoded {
		before := slices.Clone(encoded)
		types.Decode(encoded[:n])
		if !bytes.Equal(encoded, before) {
			t.Fatalf("Decode of a fault changed the bytes: %v", encoded)
		}
	}
}

// R4: no two lists that are answered share memory, spare room included.
func TestDecodedListsAreApart(t *testing.T) {
	b := []byte{5, 2, 8, 3, 0, 0, 0, 8, 1, 0, 8, 5, 0, 0, 0, 0, 0, 8, 2, 0, 0}
	ts, _, e := types.Decode(b)
	us, _, _ := types.Decode(b)
	if e != api.OK {
		t.Fatalf("Decode: %d", e)
	}
	for i := range ts {
		list := ts[i].Fields[:cap(ts[i].Fields)]
		for j := range list {
			list[j] = 100 + i
		}
	}
	for i := range ts {
		for _, f := range ts[i].Fields {
			if f != 100+i {
				t.Errorf("the fields of %d lie in those of %d", i, f-100)
			}
		}
	}
	all := ts[:cap(ts)]
	for i := range all {
		all[i] = api.Type{Kind: 99}
	}
	again, _ := types.Encode(us)
	if !bytes.Equal(again, b) {
		t.Errorf("one answer changed with the other: %v", us)
	}
}

// R4: each list of bytes that Encode answers is memory of its own.
func TestEncodedBytesAreApart(t *testing.T) {
	for _, ts := range [][]api.Type{nil, example(), full(64)} {
		first, _ := types.Encode(ts)
		second, _ := types.Encode(ts)
		before := slices.Clone(second)
		for i := range first[:cap(first)] {
			first[:cap(first)][i] = 0xee
		}
		third, _ := types.Encode(ts)
		if !bytes.Equal(second, before) || !bytes.Equal(third, before) {
			t.Errorf("one answer changed with the other: %v, %v", second, third)
		}
	}
}
