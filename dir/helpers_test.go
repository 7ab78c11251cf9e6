package dir_test

import (
	"fmt"
	"iter"
	"slices"
	"testing"

	"heddle/api"
	"heddle/dir"
	"heddle/table"
)

// entry is what All gives.
type entry struct{ hash, id uint64 }

// bitsOf answers a hash as 64 digits, the leading one first.
func bitsOf(hash uint64) string { return fmt.Sprintf("%064b", hash) }

// node is a part of a model: a directory as a tree, in which each bit of the hash leads one step down, and tables are leaves.
type node struct {
	depth     int
	words     []uint64
	zero, one *node
}

func newModel() *node { return leaf(0, 1) }

func leaf(depth, groups int) *node {
	words, _ := table.New(groups)
	return &node{depth: depth, words: words}
}

// find answers the leaf of a hash.
func (n *node) find(hash uint64) *node {
	for n.zero != nil {
		if bitsOf(hash)[n.depth] == '0' {
			n = n.zero
		} else {
			n = n.one
		}
	}
	return n
}

func (n *node) insert(hash, id uint64) api.Errno {
	for {
		l := n.find(hash)
		words, e := table.Insert(l.words, hash, id)
		if e == api.OK {
			l.words = words
			return e
		}
		if e != api.ErrFull {
			return e
		}
		groups, entries := int(l.words[0]), int(l.words[1])
		switch {
		case entries*2 <= groups*7:
			l.grow(groups)
		case groups == 1:
			l.grow(2)
		case l.depth < 6:
			l.split()
		case groups < 4096:
			l.grow(groups * 2)
		default:
			return api.ErrFull
		}
	}
}

func (n *node) grow(groups int) { n.words, _ = table.Grow(n.words, groups) }

// split makes two leaves of one.
func (n *node) split() {
	groups := int(n.words[0])
	list := n.all()
	n.words, n.zero, n.one = nil, leaf(n.depth+1, groups), leaf(n.depth+1, groups)
	for _, en := range list {
		l := n.find(en.hash)
		l.words, _ = table.Insert(l.words, en.hash, en.id)
	}
}

func (n *node) remove(hash, id uint64) api.Errno {
	l := n.find(hash)
	words, e := table.Delete(l.words, hash, id)
	if e == api.OK {
		l.words = words
	}
	return e
}

// leaves answers all leaves, from the lowest hashes to the greatest.
func (n *node) leaves() []*node {
	if n.zero == nil {
		return []*node{n}
	}
	return append(n.zero.leaves(), n.one.leaves()...)
}

func (n *node) all() (list []entry) {
	for _, l := range n.leaves() {
		seq, _ := table.All(l.words)
		list = append(list, pairs(seq)...)
	}
	return list
}

// dir answers the directory that the tree stands for.
func (n *node) dir() (d api.Dir) {
	leaves := n.leaves()
	for _, l := range leaves {
		d.Depth = max(d.Depth, l.depth)
		d.Tabs = append(d.Tabs, api.Tab{Depth: l.depth, Words: slices.Clone(l.words)})
	}
	for slot := range uint64(1) << d.Depth {
		own := n.find(slot << (63 - d.Depth) << 1)
		d.Slots = append(d.Slots, slices.Index(leaves, own))
	}
	return d
}

// sound holds a directory against the chapter's words, one condition behind the other.
func sound(d api.Dir) bool {
	if d.Depth < 0 || d.Depth > 6 || len(d.Slots) != 1<<d.Depth {
		return false
	}
	names := make([][]int, len(d.Tabs))
	next := 0
	for at, n := range d.Slots {
		if n < 0 || n >= len(d.Tabs) || n > next {
			return false
		}
		if n == next {
			next++
		}
		names[n] = append(names[n], at)
	}
	if next != len(d.Tabs) {
		return false
	}
	for n, tab := range d.Tabs {
		if !soundTab(d.Depth, tab, names[n]) {
			return false
		}
	}
	return true
}

func soundTab(depth int, tab api.Tab, slots []int) bool {
	if table.Check(tab.Words) != api.OK || tab.Depth < 0 || tab.Depth > depth {
		return false
	}
	count := 1 << (depth - tab.Depth)
	if len(slots) != count || slots[count-1]-slots[0] != count-1 || slots[0]%count != 0 {
		return false
	}
	seq, _ := table.All(tab.Words)
	for hash := range seq {
		number := fmt.Sprintf("%0*b", depth, slots[0])
		if bitsOf(hash)[:tab.Depth] != number[:tab.Depth] {
			return false
		}
	}
	return true
}

// wordsOf answers the words of any directory, sound or not.
func wordsOf(d api.Dir) []uint64 {
	words := []uint64{uint64(d.Depth), uint64(len(d.Tabs))}
	for _, n := range d.Slots {
		words = append(words, uint64(n))
	}
	for _, tab := range d.Tabs {
		words = slices.Concat(words, []uint64{uint64(tab.Depth)}, tab.Words)
	}
	return words
}

// same tells whether two directories are the same, list by list.
func same(a, b api.Dir) bool {
	return a.Depth == b.Depth && slices.Equal(a.Slots, b.Slots) && slices.EqualFunc(a.Tabs, b.Tabs, func(x, y api.Tab) bool {
		return x.Depth == y.Depth && slices.Equal(x.Words, y.Words)
	})
}

// copied answers a directory that shares nothing with another.
func copied(d api.Dir) api.Dir {
	c := api.Dir{Depth: d.Depth, Slots: slices.Clone(d.Slots)}
	for _, tab := range d.Tabs {
		c.Tabs = append(c.Tabs, api.Tab{Depth: tab.Depth, Words: slices.Clone(tab.Words)})
	}
	return c
}

// pairs answers what an iterator gives.
func pairs(seq iter.Seq2[uint64, uint64]) (list []entry) {
	for hash, id := range seq {
		list = append(list, entry{hash, id})
	}
	return list
}

// inserted answers a directory into which the entries were put, and its model.
func inserted(t *testing.T, list ...entry) (api.Dir, *node) {
	t.Helper()
	d, m := dir.New(), newModel()
	for _, en := range list {
		d = insert(t, d, en.hash, en.id)
		m.insert(en.hash, en.id)
	}
	wantDir(t, d, m.dir())
	return d, m
}

func insert(t *testing.T, d api.Dir, hash, id uint64) api.Dir {
	t.Helper()
	more, e := dir.Insert(d, hash, id)
	if e != api.OK {
		t.Fatalf("Insert(%#x, %d): %d", hash, id, e)
	}
	return more
}

func remove(t *testing.T, d api.Dir, hash, id uint64) api.Dir {
	t.Helper()
	less, e := dir.Delete(d, hash, id)
	if e != api.OK {
		t.Fatalf("Delete(%#x, %d): %d", hash, id, e)
	}
	return less
}

// wantDir looks for a directory, that it is sound, and for its number of entries.
func wantDir(t *testing.T, got, want api.Dir) {
	t.Helper()
	if !same(got, want) {
		t.Fatalf("the directory is\n%x, want\n%x", got, want)
	}
	if e := dir.Check(got); e != api.OK || !sound(got) {
		t.Fatalf("Check: %d of\n%x", e, got)
	}
	entries := 0
	for _, tab := range want.Tabs {
		entries += int(tab.Words[1])
	}
	if n, e := dir.Len(got); n != entries || e != api.OK {
		t.Fatalf("Len: %d, %d, want %d", n, e, entries)
	}
}

// wantNone looks for an error with no directory beside it.
func wantNone(t *testing.T, d api.Dir, e, want api.Errno) {
	t.Helper()
	if d.Depth != 0 || len(d.Tabs) > 0 || len(d.Slots) > 0 || e != want {
		t.Fatalf("%x, %d, want nothing and %d", d, e, want)
	}
}

func wantFind(t *testing.T, d api.Dir, hash uint64, want ...uint64) {
	t.Helper()
	seq, e := dir.Find(d, hash)
	if seq == nil || e != api.OK {
		t.Fatalf("Find(%#x): nil %t, %d", hash, seq == nil, e)
	}
	if got := slices.Collect(seq); !slices.Equal(got, want) {
		t.Fatalf("Find(%#x): %d, want %d", hash, got, want)
	}
}

func wantAll(t *testing.T, d api.Dir, want ...entry) {
	t.Helper()
	seq, e := dir.All(d)
	if seq == nil || e != api.OK {
		t.Fatalf("All: nil %t, %d", seq == nil, e)
	}
	if got := pairs(seq); !slices.Equal(got, want) {
		t.Fatalf("All: %d, want %d", got, want)
	}
}

// draw gives numbers that look like chance, but are the same in each run.
type draw uint64

func (d *draw) next() uint64 {
	*d = *d*6364136223846793005 + 1442695040888963407
	x := uint64(*d)
	x = (x ^ x>>32) * 0x9E3779B97F4A7C15
	return x ^ x>>29
}

// below answers a number from 0 to n - 1.
func (d *draw) below(n int) int { return int(d.next() >> 1 % uint64(n)) }
