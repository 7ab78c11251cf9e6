package progs

import (
	"strings"

	"heddle/api"
)

// WithField answers an instruction with n in the field that has this letter, of Args n alone.
func WithField(in api.Instr, letter rune, n int) api.Instr {
	switch letter {
	case 'A':
		in.A = n
	case 'B':
		in.B = n
	case 'C':
		in.C = n
	case 'D':
		in.D = n
	case 'N':
		in.N = uint64(n)
	case 'G':
		in.Args = []int{n}
	}
	return in
}

// Full answers an instruction that has something in each field of these letters: 1 in A, 2 in B, 3 in C, 4 in D, 300 in N, and 6, 7 in Args.
func Full(op int, letters string) api.Instr {
	in := api.Instr{Op: op}
	for i, letter := range "ABCD" {
		if strings.ContainsRune(letters, letter) {
			in = WithField(in, letter, i+1)
		}
	}
	if strings.ContainsRune(letters, 'N') {
		in.N = 300
	}
	if strings.ContainsRune(letters, 'G') {
		in.Args = []int{6, 7}
	}
	return in
}
