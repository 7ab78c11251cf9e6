package dir

import (
	"slices"

	"heddle/api"
)

const (
	// maxTabs is how many tables a directory may have: one for each slot.
	maxTabs = 1 << api.MaxDepth
	// tableHead and groupWords tell how many words a table has: some ahead of its groups, and some for each group.
	tableHead, groupWords = 3, 17
)

// write answers the words of a directory.
func write(d api.Dir) []uint64 {
	words := []uint64{uint64(d.Depth), uint64(len(d.Tabs))}
	for _, slot := range d.Slots {
		words = append(words, uint64(slot))
	}
	for _, tab := range d.Tabs {
		words = append(words, uint64(tab.Depth))
		words = append(words, tab.Words...)
	}
	return words
}

// read answers the directory whose words these are, sound or not. It answers false if there are too few words, too many, or numbers that no sound directory has.
func read(words []uint64) (api.Dir, bool) {
	var d api.Dir
	r := reader{words: words}
	d.Depth = r.number(api.MaxDepth)
	tabs := r.number(maxTabs)
	for range 1 << d.Depth {
		d.Slots = append(d.Slots, r.number(maxTabs))
	}
	for range tabs {
		depth := r.number(api.MaxDepth)
		d.Tabs = append(d.Tabs, api.Tab{Depth: depth, Words: r.table()})
	}
	return d, !r.failed && len(r.words) == 0
}

// reader takes words from the beginning of a list. Once something was missing or too great, it has failed, and gives zero values.
type reader struct {
	words  []uint64
	failed bool
}

// take answers the next words, so many of them.
func (r *reader) take(count int) []uint64 {
	if r.failed || len(r.words) < count {
		r.failed = true
		return nil
	}
	taken := r.words[:count]
	r.words = r.words[count:]
	return taken
}

// number answers the next word, which is at most so great.
func (r *reader) number(most int) int {
	word := r.take(1)
	// What is greater is left out ahead of turning it into an int, which might cut it.
	if len(word) == 0 || word[0] > uint64(most) {
		r.failed = true
		return 0
	}
	return int(word[0])
}

// table answers a copy of the next table's words: as many as its own first word, the number of groups, asks for.
func (r *reader) table() []uint64 {
	rest := r.words
	groups := r.number(api.MaxGroups)
	r.words = rest
	return slices.Clone(r.take(tableHead + groupWords*groups))
}
