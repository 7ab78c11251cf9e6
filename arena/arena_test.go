package arena_test

import (
	"bytes"
	"math"
	"slices"
	"testing"

	"heddle/api"
	"heddle/arena"
)

// make16 answers an arena of 16 bytes, 1 to 16, so that each byte tells where it came from.
func make16(t *testing.T) *arena.Arena {
	t.Helper()
	a, e := arena.New(16)
	if e != api.OK {
		t.Fatalf("New(16): %d", e)
	}
	if e := a.Write(0, counted()); e != api.OK {
		t.Fatalf("Write(0, 16 bytes): %d", e)
	}
	return a
}

func counted() []byte {
	b := make([]byte, 16)
	for i := range b {
		b[i] = byte(i + 1)
	}
	return b
}

// content answers all the bytes of an arena, read one at a time.
func content(t *testing.T, a *arena.Arena) []byte {
	t.Helper()
	b := make([]byte, a.Size())
	for i := range b {
		v, e := a.Load(i, 1)
		if e != api.OK {
			t.Fatalf("Load(%d, 1): %d", i, e)
		}
		b[i] = byte(v)
	}
	return b
}

func wantContent(t *testing.T, what string, a *arena.Arena, want []byte) {
	t.Helper()
	if got := content(t, a); !bytes.Equal(got, want) {
		t.Errorf("behind %s: % x, want % x", what, got, want)
	}
}

// numbers answers places and lengths around an arena of 16 bytes, and ints at their ends.
func numbers() []int {
	out := []int{math.MinInt, math.MinInt + 1, math.MinInt32, -1 << 16}
	for i := -3; i <= 19; i++ {
		out = append(out, i)
	}
	return append(out, 255, 256, 1<<16, api.MaxArena, math.MaxInt32, math.MaxInt-16, math.MaxInt-8, math.MaxInt-1, math.MaxInt)
}

// inside tells whether n bytes (0 to 16) from at on lie within 16. It asks for each byte, unlike the program.
func inside(at, n int) bool {
	if at < 0 || at > 16 || n > 16 {
		return false
	}
	for i := range n {
		if at+i >= 16 {
			return false
		}
	}
	return true
}

func wantNumberErrno(at, n int) api.Errno {
	switch {
	case !slices.Contains([]int{1, 2, 4, 8}, n):
		return api.ErrArg
	case !inside(at, n):
		return api.ErrRange
	}
	return api.OK
}

func wantPartErrno(n int, places ...int) api.Errno {
	if n < 0 {
		return api.ErrArg
	}
	for _, at := range places {
		if !inside(at, n) {
			return api.ErrRange
		}
	}
	return api.OK
}

// The chapter's first example.
func TestFirstExample(t *testing.T) {
	a, e := arena.New(16)
	if e != api.OK || a.Size() != 16 {
		t.Fatalf("New(16): %d, Size %d", e, a.Size())
	}
	load := func(at, n int, v uint64, want api.Errno) {
		t.Helper()
		if got, e := a.Load(at, n); got != v || e != want {
			t.Errorf("Load(%d, %d) = %#x, %d, want %#x, %d", at, n, got, e, v, want)
		}
	}
	if e := a.Store(1, 2, 0x12345); e != api.OK {
		t.Errorf("Store: %d", e)
	}
	load(1, 1, 0x45, api.OK)
	load(2, 1, 0x23, api.OK)
	load(0, 4, 0x234500, api.OK)
	load(9, 8, 0, api.ErrRange)
	load(8, 8, 0, api.OK)
	load(0, 3, 0, api.ErrArg)
	if e := a.Move(0, 1, 4); e != api.OK {
		t.Errorf("Move: %d", e)
	}
	load(0, 2, 0x2345, api.OK)
	load(1, 2, 0x23, api.OK)
}

// The chapter's second example.
func TestSecondExample(t *testing.T) {
	if a, e := arena.New(-1); a != nil || e != api.ErrArg {
		t.Errorf("New(-1) = %v, %d", a, e)
	}
	a, e := arena.New(0)
	if a == nil || e != api.OK || a.Size() != 0 {
		t.Fatalf("New(0) = %v, %d", a, e)
	}
	if b, e := a.Bytes(0, 0); len(b) != 0 || e != api.OK {
		t.Errorf("Bytes(0, 0) = %v, %d", b, e)
	}
	if v, e := a.Load(0, 1); v != 0 || e != api.ErrRange {
		t.Errorf("Load(0, 1) = %d, %d", v, e)
	}
}

// P1.1
func TestNewAndSize(t *testing.T) {
	for _, size := range []int{0, 1, 2, 7, 8, 255, 256, 257, 65536, api.MaxArena - 1, api.MaxArena} {
		a, e := arena.New(size)
		if a == nil || e != api.OK {
			t.Fatalf("New(%d) = %v, %d", size, a, e)
		}
		if a.Size() != size {
			t.Errorf("New(%d): Size %d", size, a.Size())
		}
		if b, e := a.Bytes(0, size); e != api.OK || !bytes.Equal(b, make([]byte, size)) {
			t.Errorf("New(%d): Bytes: %d, or not all 0", size, e)
		}
	}
	for _, size := range []int{-1, -2, math.MinInt32, math.MinInt, api.MaxArena + 1, math.MaxInt32, math.MaxInt} {
		if a, e := arena.New(size); a != nil || e != api.ErrArg {
			t.Errorf("New(%d) = %v, %d, want nil, ErrArg", size, a, e)
		}
	}
}

// P1.1: the last byte of the largest arena is there, the one behind it isn't.
func TestLargestArena(t *testing.T) {
	a, _ := arena.New(api.MaxArena)
	if e := a.Store(api.MaxArena-8, 8, 0x0807060504030201); e != api.OK {
		t.Errorf("Store at the end: %d", e)
	}
	if v, e := a.Load(api.MaxArena-1, 1); v != 8 || e != api.OK {
		t.Errorf("Load of the last byte = %d, %d", v, e)
	}
	if v, e := a.Load(api.MaxArena, 1); v != 0 || e != api.ErrRange {
		t.Errorf("Load behind the last byte = %d, %d", v, e)
	}
	if e := a.Move(0, api.MaxArena-8, 8); e != api.OK {
		t.Errorf("Move from the end: %d", e)
	}
	if v, _ := a.Load(0, 8); v != 0x0807060504030201 {
		t.Errorf("behind Move: %#x", v)
	}
}

// P1.1: the zero value is an arena without bytes.
func TestZeroArena(t *testing.T) {
	var a arena.Arena
	if a.Size() != 0 || a.Clear(0, 0) != api.OK || a.Write(0, []byte{1}) != api.ErrRange {
		t.Errorf("the zero value is not an empty arena")
	}
}

// P1.2
func TestLoad(t *testing.T) {
	a := make16(t)
	all := counted()
	for _, at := range numbers() {
		for _, n := range numbers() {
			want := wantNumberErrno(at, n)
			var v uint64
			if want == api.OK {
				for i := n - 1; i >= 0; i-- {
					v = v*256 + uint64(all[at+i])
				}
			}
			if got, e := a.Load(at, n); got != v || e != want {
				t.Errorf("Load(%d, %d) = %#x, %d, want %#x, %d", at, n, got, e, v, want)
			}
		}
	}
	wantContent(t, "Load", a, all)
}

// P1.2, R3
func TestStore(t *testing.T) {
	for _, v := range []uint64{0, 1, 0x8877665544332211, math.MaxUint64, 1 << 63, 0xff00ff00ff00ff00} {
		for _, at := range numbers() {
			for _, n := range numbers() {
				a := make16(t)
				all := counted()
				want := wantNumberErrno(at, n)
				if want == api.OK {
					rest := v
					for i := range n {
						all[at+i] = byte(rest % 256)
						rest /= 256
					}
				}
				if e := a.Store(at, n, v); e != want {
					t.Errorf("Store(%d, %d, %#x): %d, want %d", at, n, v, e, want)
				}
				wantContent(t, "Store", a, all)
			}
		}
	}
}

// P1.2: numbers with their highest bits set come back whole.
func TestStoreThenLoad(t *testing.T) {
	a := make16(t)
	for _, n := range []int{1, 2, 4, 8} {
		kept := uint64(math.MaxUint64) >> (64 - 8*n)
		for _, v := range []uint64{0, 0x80, 0x8000, 0x80000000, 1 << 63, 0xfedcba9876543210, math.MaxUint64} {
			if e := a.Store(3, n, v); e != api.OK {
				t.Errorf("Store(3, %d, %#x): %d", n, v, e)
			}
			if got, e := a.Load(3, n); got != v&kept || e != api.OK {
				t.Errorf("Load(3, %d) = %#x, %d, want %#x", n, got, e, v&kept)
			}
		}
	}
}

// P1.3
func TestBytes(t *testing.T) {
	a := make16(t)
	all := counted()
	for _, at := range numbers() {
		for _, n := range numbers() {
			want := wantPartErrno(n, at)
			b, e := a.Bytes(at, n)
			if e != want {
				t.Errorf("Bytes(%d, %d): %d, want %d", at, n, e, want)
			}
			if want == api.OK && !bytes.Equal(b, all[at:at+n]) || want != api.OK && len(b) != 0 {
				t.Errorf("Bytes(%d, %d) = % x", at, n, b)
			}
		}
	}
	wantContent(t, "Bytes", a, all)
}

// P1.3, R3
func TestWrite(t *testing.T) {
	for _, at := range numbers() {
		for _, n := range []int{0, 1, 2, 3, 5, 8, 15, 16, 17, 300} {
			a := make16(t)
			all := counted()
			b := bytes.Repeat([]byte{0xa0}, n)
			for i := range b {
				b[i] += byte(i % 64)
			}
			want := wantPartErrno(n, at)
			if want == api.OK {
				all = slices.Concat(all[:at], b, all[at+n:])
			}
			if e := a.Write(at, b); e != want {
				t.Errorf("Write(%d, %d bytes): %d, want %d", at, n, e, want)
			}
			wantContent(t, "Write", a, all)
		}
		a := make16(t)
		if e := a.Write(at, nil); e != wantPartErrno(0, at) {
			t.Errorf("Write(%d, nil): %d", at, e)
		}
		wantContent(t, "Write of nil", a, counted())
	}
}

// P1.3, R3
func TestClear(t *testing.T) {
	for _, at := range numbers() {
		for _, n := range numbers() {
			a := make16(t)
			all := counted()
			want := wantPartErrno(n, at)
			if want == api.OK {
				all = slices.Concat(all[:at], make([]byte, n), all[at+n:])
			}
			if e := a.Clear(at, n); e != want {
				t.Errorf("Clear(%d, %d): %d, want %d", at, n, e, want)
			}
			wantContent(t, "Clear", a, all)
		}
	}
}

// P1.3: no bytes at the end itself are fine, behind it they aren't.
func TestNothingAtTheEnd(t *testing.T) {
	for _, size := range []int{0, 1, 16, api.MaxArena} {
		a, _ := arena.New(size)
		for at, want := range map[int]api.Errno{size: api.OK, size + 1: api.ErrRange, -1: api.ErrRange} {
			_, e := a.Bytes(at, 0)
			got := []api.Errno{e, a.Write(at, nil), a.Write(at, []byte{}), a.Clear(at, 0), a.Move(at, 0, 0), a.Move(0, at, 0)}
			if !slices.Equal(got, slices.Repeat([]api.Errno{want}, len(got))) {
				t.Errorf("size %d, no bytes at %d: %d, want %d", size, at, got, want)
			}
		}
	}
}

// P1.4, R3: all places and lengths, so that the two overlap in every way.
func TestMove(t *testing.T) {
	for _, to := range numbers() {
		for _, from := range numbers() {
			for _, n := range numbers() {
				a := make16(t)
				all := counted()
				want := wantPartErrno(n, from, to)
				if want == api.OK {
					all = slices.Concat(all[:to], all[from:from+n], all[to+n:])
				}
				if e := a.Move(to, from, n); e != want {
					t.Errorf("Move(%d, %d, %d): %d, want %d", to, from, n, e, want)
				}
				if got, _ := a.Bytes(0, 16); !bytes.Equal(got, all) {
					t.Errorf("behind Move(%d, %d, %d): % x, want % x", to, from, n, got, all)
				}
			}
		}
	}
}

// P1.5, R5
func TestNilArena(t *testing.T) {
	var a *arena.Arena
	if a.Size() != 0 {
		t.Errorf("Size of nil: %d", a.Size())
	}
	for _, at := range []int{math.MinInt, -1, 0, 1, math.MaxInt} {
		for _, n := range []int{math.MinInt, -1, 0, 1, 2, 3, 4, 8, math.MaxInt} {
			if v, e := a.Load(at, n); v != 0 || e != api.ErrArg {
				t.Errorf("Load(%d, %d) of nil = %d, %d", at, n, v, e)
			}
			if b, e := a.Bytes(at, n); len(b) != 0 || e != api.ErrArg {
				t.Errorf("Bytes(%d, %d) of nil = %v, %d", at, n, b, e)
			}
			got := []api.Errno{a.Store(at, n, 7), a.Write(at, nil), a.Write(at, []byte{1}), a.Clear(at, n), a.Move(at, 0, n), a.Move(0, at, n)}
			if !slices.Equal(got, slices.Repeat([]api.Errno{api.ErrArg}, len(got))) {
				t.Errorf("of nil, at %d, n %d: %d, want ErrArg", at, n, got)
			}
		}
	}
}

// R4: what Bytes answers is the caller's own, spare room included.
func TestBytesIsNotShared(t *testing.T) {
	a := make16(t)
	first, _ := a.Bytes(4, 4)
	second, _ := a.Bytes(4, 4)
	for i := range first[:cap(first)] {
		first[:cap(first)][i] = 0xee
	}
	_ = append(first, 0xee, 0xee)
	wantContent(t, "a change of what Bytes answered", a, counted())
	if !bytes.Equal(second, []byte{5, 6, 7, 8}) {
		t.Errorf("another answer changed: % x", second)
	}
	a.Clear(0, 16)
	if !bytes.Equal(second, []byte{5, 6, 7, 8}) {
		t.Errorf("an answer changed with the arena: % x", second)
	}
	none, _ := a.Bytes(8, 0)
	_ = append(none, 0xee)
	wantContent(t, "a change behind an empty answer", a, make([]byte, 16))
}

// R4: what is written is neither kept nor changed, spare room included.
func TestWriteDoesNotShare(t *testing.T) {
	a, _ := arena.New(16)
	whole := []byte{1, 2, 3, 4, 5, 6, 7, 8}
	handed := whole[2:4]
	if e := a.Write(3, handed); e != api.OK {
		t.Fatalf("Write: %d", e)
	}
	want := make([]byte, 16)
	want[3], want[4] = 3, 4
	wantContent(t, "Write of a cut list", a, want)
	handed[0] = 0xee
	wantContent(t, "a change of what was handed in", a, want)
	handed[0] = 3
	a.Store(3, 8, math.MaxUint64)
	a.Clear(0, 16)
	a.Write(15, whole)
	if !bytes.Equal(whole, []byte{1, 2, 3, 4, 5, 6, 7, 8}) {
		t.Errorf("what was handed in has changed: % x", whole)
	}
}

// R4: a list that fills the arena isn't taken over as it is.
func TestWriteOfAllDoesNotShare(t *testing.T) {
	b := counted()
	a, _ := arena.New(16)
	a.Write(0, b)
	b[0] = 0xee
	wantContent(t, "a change of what was handed in", a, counted())
	a.Clear(0, 16)
	if b[1] != 2 {
		t.Errorf("what was handed in has changed: % x", b)
	}
}

// R5: each arena has bytes of its own.
func TestArenasAreApart(t *testing.T) {
	a := make16(t)
	b, _ := arena.New(16)
	wantContent(t, "New, beside another arena", b, make([]byte, 16))
	b.Write(0, bytes.Repeat([]byte{0xee}, 16))
	wantContent(t, "Write to another arena", a, counted())
	a.Clear(0, 16)
	wantContent(t, "Clear of another arena", b, bytes.Repeat([]byte{0xee}, 16))
}
