package dir_test

import (
	"math"
	"slices"
	"testing"

	"heddle/api"
	"heddle/dir"
)

// wantForm looks for ErrForm of all calls, with nothing beside it, whatever the other arguments are.
func wantForm(t *testing.T, what string, d api.Dir) {
	t.Helper()
	if sound(d) {
		t.Fatalf("%s: the directory is sound:\n%x", what, d)
	}
	if e := dir.Check(d); e != api.ErrForm {
		t.Fatalf("%s: Check: %d of\n%x", what, e, d)
	}
	if n, e := dir.Len(d); n != 0 || e != api.ErrForm {
		t.Fatalf("%s: Len: %d, %d", what, n, e)
	}
	for _, hash := range []uint64{0, 1, 1 << 58, 1 << 63, math.MaxUint64} {
		seq, e := dir.Find(d, hash)
		if seq == nil || e != api.ErrForm || len(slices.Collect(seq)) > 0 {
			t.Fatalf("%s: Find: nil %t, %d", what, seq == nil, e)
		}
		more, e := dir.Insert(d, hash, 5)
		wantNone(t, more, e, api.ErrForm)
		less, e := dir.Delete(d, hash, 5)
		wantNone(t, less, e, api.ErrForm)
	}
	seq, e := dir.All(d)
	if seq == nil || e != api.ErrForm || len(pairs(seq)) > 0 {
		t.Fatalf("%s: All: nil %t, %d", what, seq == nil, e)
	}
	words, e := dir.Words(d)
	if len(words) > 0 || e != api.ErrForm {
		t.Fatalf("%s: Words: %d of them, %d", what, len(words), e)
	}
}

// changed answers a copy of a directory to which something was done.
func changed(d api.Dir, change func(d *api.Dir)) api.Dir {
	c := copied(d)
	change(&c)
	return c
}

// The directory's Depth is from 0 to MaxDepth.
func TestDepths(t *testing.T) {
	for _, d := range some(t) {
		for _, depth := range []int{math.MinInt, math.MinInt + 1, -64, -7, -6, -2, -1, 0, 1, 2, 3, 4, 5, 6, 7, 8, 62, 63, 64, 65, 1 << 32, math.MaxInt} {
			if depth != d.Depth {
				wantForm(t, "another depth", changed(d, func(d *api.Dir) { d.Depth = depth }))
			}
		}
	}
	var wide api.Dir
	wide.Depth = 7
	for n := range 128 {
		wide.Slots = append(wide.Slots, n)
		wide.Tabs = append(wide.Tabs, api.Tab{Depth: 7, Words: blank(1)})
	}
	wantForm(t, "depth 7", wide)
	for n := range wide.Slots {
		wide.Slots[n] = n / 2
		wide.Tabs[n].Depth = 6
	}
	wide.Tabs = wide.Tabs[:64]
	wantForm(t, "depth 7, of tables of depth 6", wide)
	wide.Depth = 6
	wantForm(t, "128 slots at depth 6", wide)
}

// There are 2 to the Depth slots, each with the number of a table.
func TestSlots(t *testing.T) {
	wantForm(t, "nothing", api.Dir{})
	wantForm(t, "no slots", changed(dir.New(), func(d *api.Dir) { d.Slots = nil }))
	wantForm(t, "no tables", changed(dir.New(), func(d *api.Dir) { d.Tabs = nil }))
	wantForm(t, "neither, but lists", api.Dir{Tabs: []api.Tab{}, Slots: []int{}})
	for _, d := range some(t) {
		last := len(d.Slots) - 1
		wantForm(t, "a slot less", changed(d, func(d *api.Dir) { d.Slots = d.Slots[:last] }))
		wantForm(t, "a slot more", changed(d, func(d *api.Dir) { d.Slots = append(d.Slots, d.Slots[last]) }))
		wantForm(t, "half the slots", changed(d, func(d *api.Dir) { d.Slots = d.Slots[:(last+1)/2] }))
		wantForm(t, "each slot twice", changed(d, func(d *api.Dir) { d.Slots = append(d.Slots, d.Slots...) }))
		wantForm(t, "tables of their own for slots that are too many", changed(d, func(d *api.Dir) {
			for _, n := range d.Slots {
				d.Slots = append(d.Slots, len(d.Tabs)+n)
			}
			for _, tab := range d.Tabs {
				d.Tabs = append(d.Tabs, api.Tab{Depth: tab.Depth, Words: blank(1)})
			}
		}))
		for at := range d.Slots {
			for _, n := range []int{math.MinInt, -2, -1, len(d.Tabs), len(d.Tabs) + 1, 64, 1 << 32, math.MaxInt} {
				wantForm(t, "no table's number", changed(d, func(d *api.Dir) { d.Slots[at] = n }))
			}
		}
	}
}

// Tables are numbered in the order in which slots first name them, and each is named.
func TestNumbers(t *testing.T) {
	for _, d := range some(t) {
		wantForm(t, "a table that no slot names", changed(d, func(d *api.Dir) {
			d.Tabs = append(d.Tabs, api.Tab{Depth: d.Depth, Words: blank(1)})
		}))
		wantForm(t, "a table less", changed(d, func(d *api.Dir) { d.Tabs = d.Tabs[:len(d.Tabs)-1] }))
		if len(d.Tabs) == 1 {
			continue
		}
		for n := range len(d.Tabs) - 1 {
			wantForm(t, "two tables in the other order", changed(d, func(d *api.Dir) {
				d.Tabs[n], d.Tabs[n+1] = d.Tabs[n+1], d.Tabs[n]
				for at, slot := range d.Slots {
					switch slot {
					case n:
						d.Slots[at] = n + 1
					case n + 1:
						d.Slots[at] = n
					}
				}
			}))
		}
		wantForm(t, "numbers from behind", changed(d, func(d *api.Dir) {
			slices.Reverse(d.Tabs)
			for at, slot := range d.Slots {
				d.Slots[at] = len(d.Tabs) - 1 - slot
			}
		}))
	}
}

// Each table is sound, and its Depth is from 0 to the directory's.
func TestTables(t *testing.T) {
	for _, d := range some(t) {
		for n, tab := range d.Tabs {
			for _, depth := range []int{math.MinInt, -1, 0, 1, 2, 3, 4, 5, 6, 7, 63, 64, 65, 1 << 32, math.MaxInt} {
				if depth != tab.Depth {
					wantForm(t, "another depth of a table", changed(d, func(d *api.Dir) { d.Tabs[n].Depth = depth }))
				}
			}
			wantForm(t, "no words", changed(d, func(d *api.Dir) { d.Tabs[n].Words = nil }))
			wantForm(t, "a word less", changed(d, func(d *api.Dir) { d.Tabs[n].Words = d.Tabs[n].Words[:len(d.Tabs[n].Words)-1] }))
			wantForm(t, "a word more", changed(d, func(d *api.Dir) { d.Tabs[n].Words = append(d.Tabs[n].Words, 0) }))
			for at := range 3 {
				wantForm(t, "a wrong count", changed(d, func(d *api.Dir) { d.Tabs[n].Words[at]++ }))
			}
		}
	}
}

// The slots of a table stand side by side, as many as its Depth asks for, and begin at a multiple of their number.
func TestPlaces(t *testing.T) {
	// The depths of the tables, and the slots.
	for what, c := range map[string]struct{ depths, slots []int }{
		"apart":                      {[]int{1, 1}, []int{0, 1, 0, 1}},
		"apart, with a deeper one":   {[]int{1, 2, 2}, []int{0, 1, 0, 2}},
		"around another":             {[]int{1, 1}, []int{0, 1, 1, 0}},
		"begins at 1":                {[]int{2, 1, 2}, []int{0, 1, 1, 2}},
		"begins at 2 of 4":           {[]int{2, 1, 2}, []int{0, 0, 1, 1, 1, 1, 2, 2}},
		"begins at 1 of 2":           {[]int{3, 2, 3, 1}, []int{0, 1, 1, 2, 3, 3, 3, 3}},
		"too few":                    {[]int{0, 1}, []int{0, 1}},
		"too many":                   {[]int{1}, []int{0, 0}},
		"too many of one":            {[]int{2, 1}, []int{0, 0, 1, 1}},
		"three":                      {[]int{1, 2}, []int{0, 0, 0, 1}},
		"three, the last":            {[]int{2, 1}, []int{0, 1, 1, 1}},
		"named, and again":           {[]int{2, 2, 1}, []int{0, 1, 0, 2}},
		"begins with 1":              {[]int{1, 1}, []int{1, 0}},
		"leaves a number out":        {[]int{1, 1, 1}, []int{0, 2}},
		"all of one, with two there": {[]int{0, 0}, []int{0, 0}},
	} {
		var d api.Dir
		for len(c.slots) > 1<<d.Depth {
			d.Depth++
		}
		d.Slots = c.slots
		for _, depth := range c.depths {
			d.Tabs = append(d.Tabs, api.Tab{Depth: depth, Words: blank(1)})
		}
		wantForm(t, what, d)
		wantNoDir(t, what, wordsOf(d))
	}
}

// Slots and depths of all kinds, held against the chapter's words.
func TestAllPlaces(t *testing.T) {
	for depth := range 3 {
		for count := 1; count <= 4; count++ {
			ways := 1
			for range 1<<depth + count {
				ways *= 4
			}
			found := 0
			for way := range ways {
				d := api.Dir{Depth: depth}
				for range 1 << depth {
					d.Slots = append(d.Slots, way%4)
					way /= 4
				}
				for range count {
					d.Tabs = append(d.Tabs, api.Tab{Depth: way % 4, Words: blank(1)})
					way /= 4
				}
				if e := dir.Check(d); (e == api.OK) != sound(d) {
					t.Fatalf("Check: %d, sound %t:\n%v", e, sound(d), d)
				} else if e == api.OK {
					found++
				}
			}
			// Three tables take four slots in two ways; one, two or four in one way.
			want := [3][5]int{{0, 1}, {0, 1, 1}, {0, 1, 1, 2, 1}}[depth][count]
			if found != want {
				t.Fatalf("depth %d, %d tables: %d sound ones, want %d", depth, count, found, want)
			}
		}
	}
}

// The hashes of a table's entries begin with the bits of its slots.
func TestLeadingBits(t *testing.T) {
	for depth := 1; depth <= 6; depth++ {
		for own := range 1 << depth {
			d := api.Dir{Depth: depth}
			for n := range 1 << depth {
				d.Slots = append(d.Slots, n)
				d.Tabs = append(d.Tabs, api.Tab{Depth: depth, Words: blank(1)})
			}
			for lead := range 1 << depth {
				d.Tabs[own].Words = filled(t, 1, entry{uint64(own) << (64 - depth), 1}, entry{uint64(lead)<<(64-depth) | 77, 2})
				if lead == own {
					wantDir(t, d, copied(d))
					continue
				}
				if depth < 4 {
					wantForm(t, "an entry of another table", d)
				}
				if e := dir.Check(d); e != api.ErrForm {
					t.Fatalf("Check: %d, a hash with %b among those of %b", e, lead, own)
				}
			}
		}
	}
	// Only as many bits are asked as the table is deep, whatever the directory is.
	d := deep(blank(1), blank(1))
	for n, tab := range d.Tabs[1:] {
		depth := tab.Depth
		d.Tabs[n+1].Words = filled(t, 1, entry{1 << (64 - depth), 1}, entry{1<<(65-depth) - 1, 2})
		wantDir(t, d, copied(d))
		for _, hash := range []uint64{0, 1<<(64-depth) - 1, 1 << (65 - depth), 1<<(65-depth) + 1<<(64-depth), 1<<63 | 1<<(64-depth)} {
			if hash>>(64-depth) == 1 {
				continue
			}
			wantForm(t, "an entry of another table", changed(d, func(d *api.Dir) { d.Tabs[n+1].Words = filled(t, 1, entry{hash, 1}) }))
		}
	}
}
