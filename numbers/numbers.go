// Package numbers writes and reads the numbers of which tables of types and programs are made as bytes: seven bits a byte, the lowest first. It is no layer. See shared/doc/02-types.md.
package numbers

// Limit is the highest number that may stand in a table of types or in a program, but for the long ones there.
const Limit = 1<<31 - 1

// more is set in every byte of a number but the last.
const more = 0x80

// Fit tells whether all of list are from 0 to Limit.
func Fit(list ...int) bool {
	for _, n := range list {
		if n < 0 || n > Limit {
			return false
		}
	}
	return true
}

// Append answers b with the bytes of n behind it.
func Append(b []byte, n uint64) []byte {
	for n >= more {
		b = append(b, byte(n)|more)
		n >>= 7
	}
	return append(b, byte(n))
}

// Read answers the number that begins at at, and the place behind it. It is not ok, and the place is at, if the bytes end within the number, if its last byte is 0 without need, or if it is above limit.
func Read(b []byte, at int, limit uint64) (n uint64, behind int, ok bool) {
	if at < 0 || at > len(b) {
		return 0, at, false
	}
	for i, c := range b[at:] {
		digit := uint64(c &^ more)
		// What is left below the limit is shifted down, since the digit, shifted up, may lose bits.
		if digit > (limit-n)>>(7*i) {
			return 0, at, false
		}
		n += digit << (7 * i)
		if c < more {
			if c == 0 && i > 0 {
				break
			}
			return n, at + i + 1, true
		}
	}
	return 0, at, false
}
