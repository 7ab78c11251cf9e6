// Package lines reads the words of lines, which are separated by one blank. It is no layer: programs and scripts are such lines. See shared/doc/20-asm.md.
package lines

import (
	"strconv"
	"strings"
)

// Reader reads the words of one line, one behind the other. After the first fault it answers zero values.
type Reader struct {
	left  string // behind the blank that ends the last word that was read
	more  bool   // a word is left, be it an empty one
	fault bool
}

// Over answers a reader that stands at the first word of a line, which is at fault unless it ends with its only byte 10.
func Over(line string) *Reader {
	at := strings.IndexByte(line, '\n')
	if at < 0 || at != len(line)-1 {
		return &Reader{fault: true}
	}
	return &Reader{left: line[:at], more: true}
}

// Word answers the next word, which is at fault if it is empty or if none is left.
func (r *Reader) Word() (word string) {
	word, r.left, r.more = strings.Cut(r.left, " ")
	if word == "" {
		r.fail()
	}
	return word
}

// Rest answers what is left of the line, which is at fault if no word is left.
func (r *Reader) Rest() string {
	if !r.more {
		r.fail()
	}
	rest := r.left
	r.left, r.more = "", false
	return rest
}

// Number answers the number that the next word tells, which is at fault if it is not written as told or is above high.
func (r *Reader) Number(high uint64) uint64 {
	word := r.Word()
	n, _ := strconv.ParseUint(word, 10, 64)
	// Each number is written in one way alone, without noughts ahead.
	if n > high || strconv.FormatUint(n, 10) != word {
		r.fail()
		return 0
	}
	return n
}

// List answers the numbers that all words tell that are left.
func List[N int | uint64](r *Reader, high uint64) (list []N) {
	for r.more {
		list = append(list, N(r.Number(high)))
	}
	if r.fault {
		return nil
	}
	return list
}

// End tells whether there was no fault and no word is left.
func (r *Reader) End() bool {
	return !r.fault && !r.more
}

// fail leaves nothing to be read.
func (r *Reader) fail() {
	*r = Reader{fault: true}
}
