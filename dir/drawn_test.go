package dir_test

import (
	"slices"
	"testing"

	"heddle/api"
	"heddle/dir"
	"heddle/table"
)

// kind is what hashes are drawn from.
type kind struct {
	name string
	hash func(d *draw) uint64
}

// kinds answers hashes that meet in many tables, in few or in one, and that meet in groups as well.
func kinds() []kind {
	return []kind{
		{"any", func(d *draw) uint64 { return d.next() }},
		{"all begin with 0", func(d *draw) uint64 { return d.next() >> 6 }},
		{"all begin with 1", func(d *draw) uint64 { return ^(d.next() >> 7) }},
		{"few tables", func(d *draw) uint64 { return uint64(d.below(3))<<60 | d.next()>>8 }},
		{"few groups", func(d *draw) uint64 { return d.next()&^0x1FF80 | uint64(d.below(2))<<7 }},
		{"few hashes", func(d *draw) uint64 { return uint64(d.below(5)) << 61 }},
		{"one hash", func(d *draw) uint64 { return 5 << 59 }},
		{"deep and shallow", func(d *draw) uint64 { return d.next() >> d.below(8) }},
	}
}

// pair goes with a directory and its model from call to call.
type pair struct {
	t     *testing.T
	dir   api.Dir
	model *node
}

// take holds what a call answers against the model, and goes on with it.
func (p *pair) take(what string, d api.Dir, e, want api.Errno) {
	p.t.Helper()
	if e != want {
		p.t.Fatalf("%s: %d, want %d of\n%x", what, e, want, p.dir)
	}
	if e != api.OK {
		wantNone(p.t, d, e, want)
		return
	}
	p.dir = d
	wantDir(p.t, d, p.model.dir())
}

// step makes one drawn call.
func (p *pair) step(d *draw, k kind, grows int) {
	p.t.Helper()
	hash, id := k.hash(d), uint64(d.below(3))
	switch n := d.below(14); {
	case n < grows:
		more, e := dir.Insert(p.dir, hash, id)
		p.take("Insert", more, e, p.model.insert(hash, id))
	case n < 10:
		if list := p.model.all(); len(list) > 0 {
			en := list[d.below(len(list))]
			less, e := dir.Delete(p.dir, en.hash, en.id)
			p.take("Delete", less, e, p.model.remove(en.hash, en.id))
		}
	case n == 10:
		less, e := dir.Delete(p.dir, hash, id)
		p.take("Delete", less, e, p.model.remove(hash, id))
	case n == 11:
		seq, _ := table.Find(p.model.find(hash).words, hash)
		wantFind(p.t, p.dir, hash, slices.Collect(seq)...)
	case n == 12:
		wantAll(p.t, p.dir, p.model.all()...)
	case n == 13:
		wantThereAndBack(p.t, p.dir)
	}
}

// P15.1 to P15.4: drawn calls, each held against a tree of tables.
func TestDrawnCalls(t *testing.T) {
	for n, kind := range kinds() {
		t.Run(kind.name, func(t *testing.T) {
			for round := range 12 {
				d := draw(100*n + round)
				p := &pair{t, dir.New(), newModel()}
				// Where much goes as well, what is deleted stays as long as it can.
				grows := 5 + round%5
				for range 250 {
					p.step(&d, kind, grows)
				}
			}
		})
	}
}

// P15.2, P15.3: all that is put in and not taken out is found, whatever goes and comes in between.
func TestNothingIsLost(t *testing.T) {
	for _, kind := range kinds() {
		d := draw(77)
		whole := dir.New()
		there := map[entry]int{}
		total := 0
		for n := range 1200 {
			en := entry{kind.hash(&d), uint64(n % 7)}
			whole = insert(t, whole, en.hash, en.id)
			there[en]++
			total++
			if d.below(2) == 0 {
				en = entry{kind.hash(&d), uint64(d.below(7))}
			}
			if d.below(3) == 0 {
				continue
			}
			less, e := dir.Delete(whole, en.hash, en.id)
			if (e == api.OK) != (there[en] > 0) {
				t.Fatalf("%s: Delete: %d, there: %d", kind.name, e, there[en])
			}
			if e == api.OK {
				whole = less
				there[en]--
				total--
			}
		}
		if n, e := dir.Len(whole); n != total || e != api.OK {
			t.Fatalf("%s: Len %d, %d, want %d", kind.name, n, e, total)
		}
		seq, _ := dir.All(whole)
		for hash, id := range seq {
			there[entry{hash, id}]--
		}
		for en, count := range there {
			if count != 0 {
				t.Fatalf("%s: %x, %d of them too few", kind.name, en, count)
			}
		}
	}
}

// fault changes something at a drawn place.
func fault(d *draw, c *api.Dir) {
	n := d.below(len(c.Tabs))
	words := c.Tabs[n].Words
	switch d.below(9) {
	case 0:
		c.Depth += d.below(3) - 1
	case 1:
		c.Slots[d.below(len(c.Slots))] = d.below(len(c.Tabs) + 1)
	case 2:
		at := d.below(len(c.Slots))
		c.Slots[at] = c.Slots[d.below(at+1)]
	case 3:
		c.Tabs[n].Depth += d.below(3) - 1
	case 4:
		m := d.below(len(c.Tabs))
		c.Tabs[n], c.Tabs[m] = c.Tabs[m], c.Tabs[n]
	case 5:
		c.Tabs[n].Words = blank(1 << d.below(3))
	case 6:
		c.Tabs[n].Words[d.below(len(words))] ^= 1 << d.below(64)
	case 7:
		// The leading bits of a hash may be others, while the table itself is still sound.
		at := 4 + 2*d.below(8)
		words[at] ^= 1 << (57 + d.below(7)) * min(words[at], 1)
	case 8:
		c.Slots = append(c.Slots, c.Slots[d.below(len(c.Slots))])
	}
}

// Soundness: drawn faults, held against the chapter's words; some of them make another sound directory.
func TestDrawnFaults(t *testing.T) {
	d := draw(3)
	wrong, right := 0, 0
	list := some(t)
	for n := range 20000 {
		c := copied(list[n%len(list)])
		for range 1 + d.below(2) {
			fault(&d, &c)
		}
		want := api.OK
		if !sound(c) {
			want = api.ErrForm
			wrong++
		} else {
			right++
		}
		if e := dir.Check(c); e != want {
			t.Fatalf("Check: %d, want %d of\n%x", e, want, c)
		}
		if want == api.OK {
			wantThereAndBack(t, c)
		} else if n%10 == 0 {
			wantForm(t, "a fault", c)
			wantOf(t, wordsOf(c))
		}
	}
	if wrong < 5000 || right < 500 {
		t.Fatalf("%d wrong ones, %d right ones", wrong, right)
	}
}
