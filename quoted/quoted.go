// Package quoted writes strings as texts between two ' and reads them. It is no layer: such texts stand in the texts of values and of programs. See shared/doc/03-cells.md.
package quoted

import "strconv"

const (
	quote  = '\''
	escape = '\\'
	digits = "0123456789abcdef"
)

// escaped is how many bytes the text of a byte has that is not written as itself.
const escaped = 3

// Append answers b with the text of s behind it.
func Append(b []byte, s string) []byte {
	b = append(b, quote)
	for i := range len(s) {
		b = appendByte(b, s[i])
	}
	return append(b, quote)
}

func appendByte(b []byte, c byte) []byte {
	if c >= 0x20 && c <= 0x7e && c != quote && c != escape {
		return append(b, c)
	}
	return append(b, escape, digits[c>>4], digits[c&15])
}

// Read answers the string whose text is handed in. It is not ok if that is no string's text.
func Read(text string) (s string, ok bool) {
	if len(text) < 2 {
		return "", false
	}
	var b []byte
	for left := text[1 : len(text)-1]; len(left) > 0; {
		c, size := firstByte(left)
		b, left = append(b, c), left[size:]
	}
	// Each string has just one text: any other that reads like it is none, be it for one wrong byte.
	if string(Append(nil, string(b))) != text {
		return "", false
	}
	return string(b), true
}

// firstByte answers the byte that a text between its quotes begins with, and how many bytes tell it. Of what is no text it answers any.
func firstByte(left string) (c byte, size int) {
	if left[0] != escape || len(left) < escaped {
		return left[0], 1
	}
	n, _ := strconv.ParseUint(left[1:escaped], 16, 8)
	return byte(n), escaped
}
