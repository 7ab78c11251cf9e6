package lines_test

import (
	"math"
	"slices"
	"strings"
	"testing"

	"heddle/lines"
)

func wantWord(t *testing.T, r *lines.Reader, want string) {
	t.Helper()
	if s := r.Word(); s != want {
		t.Errorf("Word() = %q, want %q", s, want)
	}
}

func wantNumber(t *testing.T, r *lines.Reader, high, want uint64) {
	t.Helper()
	if n := r.Number(high); n != want {
		t.Errorf("Number(%d) = %d, want %d", high, n, want)
	}
}

func wantEnd(t *testing.T, r *lines.Reader, want bool) {
	t.Helper()
	if ok := r.End(); ok != want {
		t.Errorf("End() = %v", ok)
	}
}

// wantFault looks for nothing from a reader that is at fault, whatever it is asked.
func wantFault(t *testing.T, what string, r *lines.Reader) {
	t.Helper()
	for range 2 {
		if r.End() || r.Word() != "" || r.Rest() != "" || r.Number(math.MaxUint64) != 0 || len(lines.List[int](r, 9)) != 0 || r.End() {
			t.Errorf("%s: there is no fault", what)
		}
	}
}

func TestReader(t *testing.T) {
	r := lines.Over("picks 0 17 x 5 6\n")
	wantEnd(t, r, false)
	wantWord(t, r, "picks")
	wantNumber(t, r, 0, 0)
	wantNumber(t, r, 17, 17)
	wantWord(t, r, "x")
	wantEnd(t, r, false)
	if list := lines.List[int](r, 6); !slices.Equal(list, []int{5, 6}) {
		t.Errorf("List: %v", list)
	}
	wantEnd(t, r, true)
	if list := lines.List[int](r, 6); len(list) != 0 {
		t.Errorf("List of no words: %v", list)
	}
	wantEnd(t, r, true)
	r = lines.Over("halt\n")
	wantWord(t, r, "halt")
	wantEnd(t, r, true)
}

func TestRest(t *testing.T) {
	for _, rest := range []string{"", " ", "'a  b' ", "x"} {
		r := lines.Over("str " + rest + "\n")
		wantWord(t, r, "str")
		if s := r.Rest(); s != rest {
			t.Errorf("Rest() = %q, want %q", s, rest)
		}
		wantEnd(t, r, true)
	}
	r := lines.Over("str\n")
	wantWord(t, r, "str")
	r.Rest()
	wantFault(t, "the rest of nothing", r)
}

// A line ends with its only byte 10.
func TestLines(t *testing.T) {
	for _, line := range []string{"", "halt", "halt\nhalt", "halt\nhalt\n", "\nhalt", "\n\n", "halt\r"} {
		wantFault(t, line, lines.Over(line))
	}
}

// Words are separated by one blank.
func TestWords(t *testing.T) {
	for _, line := range []string{"\n", " \n", " a\n", "  \n"} {
		r := lines.Over(line)
		wantWord(t, r, "")
		wantFault(t, line, r)
	}
	for _, line := range []string{"a\n", "a \n", "a  b\n"} {
		r := lines.Over(line)
		wantWord(t, r, "a")
		wantWord(t, r, "")
		wantFault(t, line, r)
	}
	// No other byte separates them.
	r := lines.Over("a\tb\rc\x00d\xa0 e\n")
	wantWord(t, r, "a\tb\rc\x00d\xa0")
	wantWord(t, r, "e")
	wantEnd(t, r, true)
}

func TestNumbers(t *testing.T) {
	for _, c := range []struct {
		word string
		n    uint64
	}{
		{"0", 0}, {"1", 1}, {"9", 9}, {"10", 10}, {"2147483647", 1<<31 - 1}, {"2147483648", 1 << 31}, {"18446744073709551615", math.MaxUint64},
	} {
		for _, high := range []uint64{0, 1, 9, 10, 1<<31 - 1, 1 << 31, math.MaxUint64 - 1, math.MaxUint64} {
			r := lines.Over(c.word + "\n")
			all := lines.Over("5 " + c.word + "\n")
			wantNumber(t, all, 5, 5)
			if c.n <= high {
				wantNumber(t, r, high, c.n)
				wantEnd(t, r, true)
				if list := lines.List[uint64](all, high); !slices.Equal(list, []uint64{c.n}) {
					t.Errorf("List: %v", list)
				}
				wantEnd(t, all, true)
				continue
			}
			wantNumber(t, r, high, 0)
			wantFault(t, c.word, r)
			if list := lines.List[uint64](all, high); len(list) != 0 {
				t.Errorf("List: %v", list)
			}
			wantFault(t, c.word, all)
		}
	}
}

func TestWrongNumbers(t *testing.T) {
	for _, word := range []string{
		"", "00", "01", "007", "+1", "-1", "-0", "1.0", "1e3", "0x1", "0b1", "0o7", "1_000", "a", "1a", "a1", "٣", "1\r", "\t1", "1\x00", "'1'",
		"18446744073709551616", "18446744073709551625", "99999999999999999999", "018446744073709551615", strings.Repeat("9", 1000), strings.Repeat("0", 1000),
	} {
		r := lines.Over(word + "\n")
		wantNumber(t, r, math.MaxUint64, 0)
		wantFault(t, word, r)
		r = lines.Over("1 2 " + word + " 3\n")
		if list := lines.List[int](r, 9); len(list) != 0 {
			t.Errorf("List with %q: %v", word, list)
		}
		wantFault(t, word, r)
	}
}
