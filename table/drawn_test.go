package table_test

import (
	"testing"

	"heddle/api"
	"heddle/table"
)

// kind is what hashes are drawn from.
type kind struct {
	name string
	hash func(d *draw, groups int) uint64
}

// kinds answers hashes that meet all over, in few groups, in one order, or in the low bits alone.
func kinds() []kind {
	return []kind{
		{"any", func(d *draw, groups int) uint64 { return d.next() }},
		{"few", func(d *draw, groups int) uint64 { return hashOf(uint64(d.below(4)), byte(d.below(4))) }},
		{"one", func(d *draw, groups int) uint64 { return hashOf(uint64(groups-1), byte(d.below(128))) }},
		{"same", func(d *draw, groups int) uint64 { return 5 }},
		{"high", func(d *draw, groups int) uint64 { return uint64(d.below(6))<<60 | 3 }},
		{"two orders", func(d *draw, groups int) uint64 {
			return hashOf(uint64(d.below(2)*(groups-1)+d.below(3)*groups), byte(d.below(2)))
		}},
	}
}

// same goes with a table and its model from call to call.
type same struct {
	t     *testing.T
	words []uint64
	model model
}

func (s *same) insert(hash, id uint64) {
	s.t.Helper()
	want := s.model.insert(hash, id)
	s.take("Insert", want, func() ([]uint64, api.Errno) { return table.Insert(s.words, hash, id) })
}

func (s *same) remove(hash, id uint64) {
	s.t.Helper()
	want := s.model.remove(hash, id)
	s.take("Delete", want, func() ([]uint64, api.Errno) { return table.Delete(s.words, hash, id) })
}

func (s *same) grow(groups int) {
	s.t.Helper()
	grown, want := s.model.grow(groups)
	if want == api.OK {
		s.model = grown
	}
	s.take("Grow", want, func() ([]uint64, api.Errno) { return table.Grow(s.words, groups) })
}

// take holds what a call answers against the model, and goes on with it.
func (s *same) take(what string, want api.Errno, call func() ([]uint64, api.Errno)) {
	s.t.Helper()
	words, e := call()
	if e != want {
		s.t.Fatalf("%s: %d, want %d of\n%x", what, e, want, s.words)
	}
	if e != api.OK {
		wantNone(s.t, words, e, want)
		return
	}
	s.words = words
	wantTable(s.t, words, s.model.words())
}

// P14.1 to P14.5: drawn calls, each held against a table that is gone through slot by slot.
func TestDrawnCalls(t *testing.T) {
	for k, kind := range kinds() {
		t.Run(kind.name, func(t *testing.T) {
			for n := range 60 {
				d := draw(1000*k + n)
				groups := sizes[n%5]
				s := &same{t, inserted(t, groups), newModel(groups)}
				// Where more goes than comes, what is deleted stays as long as it can.
				grows := 2 + d.below(6)
				for range 60 * min(groups, 4) {
					step(s, &d, kind, grows)
				}
			}
		})
	}
}

// step makes one drawn call.
func step(s *same, d *draw, k kind, grows int) {
	s.t.Helper()
	hash, id := k.hash(d, len(s.model)), uint64(d.below(3))
	switch n := d.below(12); {
	case n < grows:
		s.insert(hash, id)
	case n < 8:
		if list := s.model.all(); len(list) > 0 {
			en := list[d.below(len(list))]
			s.remove(en.hash, en.id)
		}
	case n == 8:
		s.remove(hash, id)
	case n == 9:
		wantFind(s.t, s.words, hash, s.model.find(hash)...)
	case n == 10:
		wantAll(s.t, s.words, s.model.all()...)
	case d.below(8) == 0:
		s.grow([]int{0, 1, 2, 3, 4, 8, 16, len(s.model), -len(s.model)}[d.below(9)])
	}
}

// P14.2, P14.3: all that is put in and not taken out is found, whatever goes and comes in between.
func TestNothingIsLost(t *testing.T) {
	for _, kind := range kinds() {
		d := draw(77)
		words := inserted(t, 8)
		there := map[entry]int{}
		total := 0
		for n := range 1500 {
			en := entry{kind.hash(&d, 8), uint64(n % 7)}
			if more, e := table.Insert(words, en.hash, en.id); e == api.OK {
				words = more
				there[en]++
				total++
			}
			en = entry{kind.hash(&d, 8), uint64(d.below(7))}
			less, e := table.Delete(words, en.hash, en.id)
			if (e == api.OK) != (there[en] > 0) {
				t.Fatalf("%s: Delete: %d, there: %d", kind.name, e, there[en])
			}
			if e == api.OK {
				words = less
				there[en]--
				total--
			}
			if count, _ := table.Len(words); count != total {
				t.Fatalf("%s: Len %d, want %d", kind.name, count, total)
			}
		}
		for en, count := range there {
			seq, _ := table.Find(words, en.hash)
			for id := range seq {
				if id == en.id {
					count--
				}
			}
			if count != 0 {
				t.Fatalf("%s: %d, %d of them too few", kind.name, en, count)
			}
		}
	}
}
