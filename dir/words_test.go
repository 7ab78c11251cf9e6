package dir_test

import (
	"math"
	"slices"
	"testing"

	"heddle/api"
	"heddle/dir"
)

// wantThereAndBack looks for a sound directory's words, and for it again.
func wantThereAndBack(t *testing.T, d api.Dir) {
	t.Helper()
	words, e := dir.Words(d)
	if want := wordsOf(d); e != api.OK || !slices.Equal(words, want) {
		t.Fatalf("Words: %d\n%x, want\n%x", e, words, want)
	}
	back, e := dir.Of(words)
	if e != api.OK {
		t.Fatalf("Of: %d of\n%x", e, words)
	}
	wantDir(t, back, d)
}

// wantNoDir looks for ErrForm of words that are those of no sound directory.
func wantNoDir(t *testing.T, what string, words []uint64) {
	t.Helper()
	d, e := dir.Of(words)
	if e != api.ErrForm {
		t.Fatalf("%s: Of: %d of\n%x", what, e, words)
	}
	wantNone(t, d, e, api.ErrForm)
}

// some answers directories of many forms.
func some(t *testing.T) []api.Dir {
	t.Helper()
	list := []api.Dir{dir.New(), deep(packed(2, 0), blank(1)), deep(packed(64, 0), blank(4))}
	for n, lead := range []uint64{0, 1 << 63, 3 << 62, 5 << 61, 1 << 60, 1 << 58, 63 << 58} {
		var entries []entry
		for i := range uint64(16 + 5*n) {
			entries = append(entries, entry{lead ^ i%uint64(n+1)<<58 ^ i*999, i})
		}
		d, _ := inserted(t, entries...)
		list = append(list, d)
	}
	wide := api.Dir{Depth: 6}
	for n := range 64 {
		wide.Slots = append(wide.Slots, n)
		wide.Tabs = append(wide.Tabs, api.Tab{Depth: 6, Words: packed(1, uint64(n))})
	}
	return append(list, wide)
}

// P15.4: the words of directories, written out.
func TestWords(t *testing.T) {
	words, e := dir.Words(dir.New())
	want := []uint64{0, 1, 0, 0, 1, 0, 7, 0x8080808080808080, 0, 0, 0, 0, 0, 0, 0, 0, 0, 0, 0, 0, 0, 0, 0, 0}
	if !slices.Equal(words, want) || e != api.OK {
		t.Fatalf("Words of New: %d\n%x", e, words)
	}
	d := api.Dir{Depth: 2, Slots: []int{0, 1, 2, 2}, Tabs: []api.Tab{
		{Depth: 2, Words: filled(t, 1, entry{5, 6})}, {Depth: 2, Words: blank(1)}, {Depth: 1, Words: filled(t, 1, entry{3 << 62, 7})},
	}}
	words, e = dir.Words(d)
	want = []uint64{2, 3, 0, 1, 2, 2,
		2, 1, 1, 6, 0x8080808080808005, 5, 6, 0, 0, 0, 0, 0, 0, 0, 0, 0, 0, 0, 0, 0, 0,
		2, 1, 0, 7, 0x8080808080808080, 0, 0, 0, 0, 0, 0, 0, 0, 0, 0, 0, 0, 0, 0, 0, 0,
		1, 1, 1, 6, 0x8080808080808000, 3 << 62, 7, 0, 0, 0, 0, 0, 0, 0, 0, 0, 0, 0, 0, 0, 0,
	}
	if !slices.Equal(words, want) || e != api.OK {
		t.Fatalf("Words: %d\n%x", e, words)
	}
}

// P15.4: there and back.
func TestThereAndBack(t *testing.T) {
	for _, d := range some(t) {
		wantThereAndBack(t, d)
	}
	wantThereAndBack(t, deep(packed(api.MaxGroups, 0), blank(api.MaxGroups)))
}

// P15.4: too few words, and too many.
func TestWordsCut(t *testing.T) {
	wantNoDir(t, "nil", nil)
	wantNoDir(t, "no words", []uint64{})
	for _, d := range some(t) {
		words := wordsOf(d)
		for n := range words {
			if n < 200 || n > len(words)-40 {
				wantNoDir(t, "cut", words[:n])
			}
		}
		wantNoDir(t, "one word more", append(slices.Clone(words), 0))
		wantNoDir(t, "a table more", append(append(slices.Clone(words), 0), blank(1)...))
		wantNoDir(t, "the last table twice", append(slices.Clone(words), words[len(words)-len(d.Tabs[len(d.Tabs)-1].Words)-1:]...))
	}
	// What was cut off is not taken from the spare room.
	words := wordsOf(dir.New())
	wantNoDir(t, "spare room", words[:len(words)-1])
}

// P15.4, R1: numbers that are too great, or have high bits alone.
func TestWordsGreat(t *testing.T) {
	for _, d := range some(t) {
		words := wordsOf(d)
		heads := []int{0, 1}
		for n := range d.Slots {
			heads = append(heads, 2+n)
		}
		at := 2 + len(d.Slots)
		for _, tab := range d.Tabs {
			heads = append(heads, at, at+1, at+2, at+3)
			at += 1 + len(tab.Words)
		}
		for _, at := range heads {
			for _, w := range []uint64{0, 1, 2, 3, 5, 6, 7, 63, 64, 65, 4096, 4097, 8192, 1 << 31, 1 << 32, 1 << 62, math.MaxInt64, 1 << 63, math.MaxUint64,
				words[at] + 1, words[at] - 1, words[at] + 1<<32, words[at] + 1<<63} {
				if w != words[at] {
					wrong := slices.Clone(words)
					wrong[at] = w
					wantNoDir(t, "another number", wrong)
				}
			}
		}
	}
}

// P15.4: each word counts but for hashes' and ids' bits that no condition asks for.
func TestWordsChanged(t *testing.T) {
	for _, d := range some(t) {
		words := wordsOf(d)
		for at := range words {
			other := slices.Clone(words)
			other[at] ^= 1 << []int{0, 6, 8, 30, 57, 58, 63}[at%7]
			wantOf(t, other)
		}
	}
}

// wantOf looks for a directory just if the words are those of a sound one, which are told by asking each possible reading.
func wantOf(t *testing.T, words []uint64) {
	t.Helper()
	want, ok := reading(words)
	if !ok || !sound(want) {
		wantNoDir(t, "not sound", words)
		return
	}
	got, e := dir.Of(words)
	if e != api.OK {
		t.Fatalf("Of: %d of\n%x", e, words)
	}
	wantDir(t, got, want)
}

// reading answers the only directory whose words these could be.
func reading(words []uint64) (d api.Dir, ok bool) {
	if len(words) < 2 || words[0] > 6 || uint64(len(words)) < 2+1<<words[0] {
		return d, false
	}
	d.Depth = int(words[0])
	for _, n := range words[2:][:1<<words[0]] {
		d.Slots = append(d.Slots, int(n))
	}
	rest := words[2+1<<words[0]:]
	for range words[1] {
		if len(rest) < 2 || rest[1] > 4096 || uint64(len(rest)) < 4+17*rest[1] {
			return d, false
		}
		size := 4 + 17*rest[1]
		d.Tabs = append(d.Tabs, api.Tab{Depth: int(rest[0]), Words: slices.Clone(rest[1:size])})
		rest = rest[size:]
	}
	return d, len(rest) == 0
}
