package ops

import (
	"heddle/api"
)

// Concat answers s with t behind it.
func Concat(s, t string) (string, api.Errno) {
	if len(s)+len(t) > api.MaxStr {
		return "", api.ErrLarge
	}
	// By + the answer would be s or t itself where the other one is empty.
	return string(append([]byte(s), t...)), api.OK
}

// Slice answers the bytes of s from i up to j.
func Slice(s string, i, j uint64) (string, api.Errno) {
	// A number below 0 is beyond every length, as it comes in.
	if i > j || j > uint64(len(s)) {
		return "", api.ErrRange
	}
	return ownText(s[i:j]), api.OK
}

// Byte answers the byte of s at i.
func Byte(s string, i uint64) (uint64, api.Errno) {
	if i >= uint64(len(s)) {
		return 0, api.ErrRange
	}
	return uint64(s[i]), api.OK
}

// ownText answers s in memory of its own, which does not hold on to the text of which s was cut.
func ownText(s string) string {
	return string([]byte(s))
}
