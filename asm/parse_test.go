package asm_test

import (
	"slices"
	"strings"
	"testing"

	"heddle/api"
)

// P20.2: the chapter's second example.
func TestSecondExample(t *testing.T) {
	wantParse(t, "", api.Prog{})
	wantFault(t, "halt\n", 1, api.ErrText)
	wantFault(t, "func 0 0\nint 0 05\n", 2, api.ErrText)
	wantFault(t, "func 0 0\ntype int\n", 2, api.ErrText)
	wantFault(t, "str 'a\\41'\n", 1, api.ErrText)
	wantFault(t, "type int", 1, api.ErrText)
}

// P20.2: the first line at fault counts, of several too, and a last line without a byte 10 is one.
func TestFirstFault(t *testing.T) {
	lines := strings.SplitAfter(strings.TrimSuffix(sampleText(), "\n"), "\n")
	lines[len(lines)-1] += "\n"
	for i, line := range lines {
		front, rest := strings.Join(lines[:i], ""), strings.Join(lines[i+1:], "")
		if hold(t, front) != api.OK {
			t.Errorf("the first %d lines are at fault", i)
		}
		for _, wrong := range []string{"\n", " \n", "x\n", line[:len(line)-1] + " \n", " " + line, "\n" + line, line[:len(line)-1] + "\r\n", "\x00" + line} {
			wantFault(t, front+wrong+rest, i+1, api.ErrText)
			wantFault(t, front+wrong+wrong, i+1, api.ErrText)
			wantFault(t, front+wrong+"x", i+1, api.ErrText)
			wantFault(t, front+line+wrong, i+2, api.ErrText)
		}
		for n := 1; n < len(line); n++ {
			wantFault(t, front+line[:n], i+1, api.ErrText)
		}
		wantFault(t, front+line+"x", i+2, api.ErrText)
	}
}

// P20.2: types, strings, globals and functions stand in this order, and no other.
func TestOrder(t *testing.T) {
	each := []string{"type int\n", "str 'x'\n", "global 0\n", "func 0 0\n"}
	for i, first := range each {
		for j, second := range each {
			if j >= i {
				if hold(t, first+second) != api.OK || hold(t, first+second+second) != api.OK {
					t.Errorf("%q is at fault", first+second)
				}
				continue
			}
			wantFault(t, first+second, 2, api.ErrText)
			wantFault(t, first+first+second+first, 3, api.ErrText)
			wantFault(t, second+first+second, 3, api.ErrText)
			wantFault(t, "func 0 0\nhalt\n"+second, 3, api.ErrText)
		}
	}
}

// P20.2: a line str or global stands for an instruction behind the first func, and for a string or a global ahead of it.
func TestSameWords(t *testing.T) {
	for _, s := range []string{"str 0 1\n", "global 0 0\n", "str 'x'\nstr 0 1\n", "global 1\nglobal 0 1\n"} {
		wantFault(t, s, strings.Count(s, "\n"), api.ErrText)
	}
	for _, s := range []string{"str 'x'\n", "str ''\n", "str '0 1'\n", "global 0\n", "type int\n"} {
		wantFault(t, "func 0 0\n"+s, 2, api.ErrText)
		wantFault(t, s+"func 0 0\nhalt\n"+s, 4, api.ErrText)
	}
	for op := 1; op <= opCount; op++ {
		wantFault(t, fullLine(op), 1, api.ErrText)
		wantFault(t, "type int\n"+fullLine(op), 2, api.ErrText)
	}
}

// numbered are lines with numbers, each with what has to stand ahead of it.
func numbered() (list [][2]string) {
	for line := range strings.Lines("type ptr 1\ntype map 2 3\ntype struct 4\ntype struct 5 6 7\ntype array 8 9\ntype iter 10\nglobal 11\nfunc 12 13\nfunc 14 15 16 17\n") {
		list = append(list, [2]string{"", line})
	}
	for op := 1; op <= opCount; op++ {
		list = append(list, [2]string{"func 0 0\n", fullLine(op)})
	}
	return list
}

// P20.2: each number is written as told, and within its limit.
func TestNumbersOfLines(t *testing.T) {
	wrong := []string{"", "-1", "-0", "+1", "00", "01", "1.0", "1e3", "0x1", "1_0", "a", "'1'", "18446744073709551616", "36893488147419103232", strings.Repeat("9", 100), strings.Repeat("0", 100), "٣"}
	long := []string{"2147483648", "4294967296", "18446744073709551615"}
	for _, c := range numbered() {
		front, words := c[0], strings.Split(strings.TrimSuffix(c[1], "\n"), " ")
		line := strings.Count(front, "\n") + 1
		for i := range words {
			if words[i][0] > '9' {
				continue
			}
			for _, word := range wrong {
				wantFault(t, front+changed(words, i, word)+"\n", line, api.ErrText)
			}
			for _, word := range long {
				if told := words[0]; i == 2 && (told == "int" || told == "float" || told == "bool") {
					if s := front + changed(words, i, word) + "\n"; hold(t, s) != api.OK {
						t.Errorf("%q is at fault", s)
					}
					continue
				}
				wantFault(t, front+changed(words, i, word)+"\n", line, api.ErrText)
			}
		}
	}
}

// changed answers a line whose word number i is another.
func changed(words []string, i int, word string) string {
	words = slices.Clone(words)
	words[i] = word
	return strings.Join(words, " ")
}

// P20.2: each line has as many numbers as it needs, and no other words.
func TestWordsOfLines(t *testing.T) {
	for _, c := range numbered() {
		front, words := c[0], strings.Split(strings.TrimSuffix(c[1], "\n"), " ")
		open := words[0] == "call" || words[0] == "func" || len(words) > 1 && words[1] == "struct"
		whole := strings.Join(words, " ")
		for _, more := range []string{" 0", " 0 0", " 2147483647"} {
			if e := hold(t, front+whole+more+"\n"); (e == api.OK) != open {
				t.Errorf("%q and %q: %d", whole, more, e)
			}
		}
		for _, more := range []string{" ", "  0", " 0 ", " x", "\t0", "\t", " -1", " 2147483648"} {
			wantFault(t, front+whole+more+"\n", strings.Count(front, "\n")+1, api.ErrText)
		}
		for i := range words {
			e := hold(t, front+strings.Join(words[:i], " ")+"\n")
			if few := !open || i < 2 || i < 3 && words[0] != "type"; few && e != api.ErrText {
				t.Errorf("%d words of %q: %d", i, whole, e)
			}
			hold(t, front+strings.Join(words[i:], " ")+"\n")
			hold(t, front+strings.Join(slices.Delete(slices.Clone(words), i, i+1), " ")+"\n")
		}
	}
}

// P20.2: a string's text is written in just one way.
func TestTextsOfStrings(t *testing.T) {
	for _, wrong := range []string{"", " ", "'", "x", "''' ", "'x", "x'", " 'x'", "'x' ", "'x' 'y'", "'x''y'", "\"x\"", `'\'`, `'\4'`, `'\41'`, `'\0A'`, `'\0g'`, `'\x00'`, `'\n'`, "'\t'", "'\x7f'", "'\x80'", "'ä'", `'\20'`, `'\7e'`, `'\27`, "x 'y'", "0 1"} {
		wantFault(t, "str "+wrong+"\n", 1, api.ErrText)
		wantFault(t, "str 'x'\nstr "+wrong+"\nstr 'y'\n", 2, api.ErrText)
	}
	for _, wrong := range []string{"str\n", "str'x'\n", "str  'x'\n", "Str 'x'\n", "str\t'x'\n", "str 'x\n'\n", "str 'x'", "str 'x'\r\n"} {
		wantFault(t, wrong, 1, api.ErrText)
	}
}

// P20.2: words of no line.
func TestNoWords(t *testing.T) {
	for _, wrong := range []string{"type\n", "type \n", "type nothing\n", "type Int\n", "type int 0\n", "type INT\n", "type func\n", "type 2\n", "type eq\n", "types int\n", "typeint\n", "int\n", "program\n", "\xff\n", "; type int\n", "# type int\n"} {
		wantFault(t, wrong, 1, api.ErrText)
		wantFault(t, "type int\n"+wrong, 2, api.ErrText)
		wantFault(t, "func 0 0\nhalt\n"+wrong, 3, api.ErrText)
	}
	for _, wrong := range []string{"Halt\n", "HALT\n", "halt halt\n", "halt; halt\n", "hal\n", "haltx\n", "40\n", "func\n", "func 0\n", "Func 0 0\n", "iface\n", "ptr 0\n"} {
		wantFault(t, "func 0 0\n"+wrong, 2, api.ErrText)
	}
}

// P20.2: MaxText bytes, and one more, whatever they are.
func TestParseLarge(t *testing.T) {
	for _, s := range []string{"\n", "x", "halt\n", "type int\n", "func 0 0\n", "\x00", " ", "0"} {
		long := strings.Repeat(s, api.MaxText/len(s)+2)
		hold(t, long[:api.MaxText])
		wantFault(t, long[:api.MaxText+1], 0, api.ErrLarge)
		wantFault(t, long, 0, api.ErrLarge)
	}
	wantFault(t, strings.Repeat("type int\n", 1<<20), 0, api.ErrLarge)
	head := "func 0 0\ncall 0 0"
	long := head + strings.Repeat(" 0", (api.MaxText-len(head))/2)
	wantFault(t, long, 2, api.ErrText)
	wantParse(t, long[:len(long)-2]+"\n", within(api.Instr{Op: api.OpCall, Args: make([]int, (api.MaxText-len(head))/2-1)}))
}
