package quoted_test

import (
	"strings"
	"testing"

	"heddle/quoted"
)

// written are strings with their texts.
var written = []struct{ s, text string }{
	{"", "''"},
	{"abc", "'abc'"},
	{"a'b\n", `'a\27b\0a'`},
	{`\`, `'\5c'`},
	{`\41`, `'\5c41'`},
	{"'", `'\27'`},
	{"''", `'\27\27'`},
	{" ~ \x1f\x7f", `' ~ \1f\7f'`},
	{"\x00\x80\xff", `'\00\80\ff'`},
	{"ä", `'\c3\a4'`},
}

func wantText(t *testing.T, s, want string) {
	t.Helper()
	if b := quoted.Append(nil, s); string(b) != want {
		t.Errorf("Append(nil, %q) = %s, want %s", s, b, want)
	}
	if b := quoted.Append([]byte("x '"), s); string(b) != "x '"+want {
		t.Errorf("Append of three bytes, %q = %s", s, b)
	}
	if got, ok := quoted.Read(want); got != s || !ok {
		t.Errorf("Read(%s) = %q, %v, want %q", want, got, ok, s)
	}
}

func wantNone(t *testing.T, text string) {
	t.Helper()
	if s, ok := quoted.Read(text); s != "" || ok {
		t.Errorf("Read(%q) = %q, %v, want none", text, s, ok)
	}
}

func TestThereAndBack(t *testing.T) {
	for _, w := range written {
		wantText(t, w.s, w.text)
	}
	long := strings.Repeat("x\n", 10000)
	wantText(t, long, "'"+strings.Repeat(`x\0a`, 10000)+"'")
}

// Each byte is written as itself or by its two digits, and is read in no other way.
func TestEachByte(t *testing.T) {
	const small, great = "0123456789abcdef", "0123456789ABCDEF"
	for c := range 256 {
		s := string([]byte{byte(c)})
		byDigits := `\` + small[c>>4:c>>4+1] + small[c&15:c&15+1]
		byGreat := `\` + great[c>>4:c>>4+1] + great[c&15:c&15+1]
		if c >= 0x20 && c <= 0x7e && s != "'" && s != `\` {
			wantText(t, s, "'"+s+"'")
			wantNone(t, "'"+byDigits+"'")
		} else {
			wantText(t, s, "'"+byDigits+"'")
			wantNone(t, "'"+s+"'")
		}
		if byGreat != byDigits {
			wantNone(t, "'"+byGreat+"'")
		}
	}
}

func TestReadWhatIsNoText(t *testing.T) {
	for _, text := range []string{
		"", "'", "a", "ab", "abc", "'a", "a'", `"a"`, " 'a'", "'a' ", "'a''", "''a'", "'''", "'a'b'",
		`'\'`, `'\\'`, `'\0'`, `'\a'`, `'\0g'`, `'\g0'`, `'\-1'`, `'\+1'`, `'\0_'`, `'\_0'`, `'\ 1'`, `'\0x'`, `'\n'`, `'\000`, `'a\'`, `'a\0'`, `'\00`,
	} {
		wantNone(t, text)
	}
	for _, w := range written {
		for i := range w.text {
			wantNone(t, w.text[:i])
			wantNone(t, w.text[:i]+"'"+w.text[i:])
			wantNone(t, w.text[:i]+"\x80"+w.text[i:])
		}
	}
}
