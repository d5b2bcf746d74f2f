package names

import (
	"strings"
	"testing"
)

// The words of the document: from 1 to 32 bytes, each a small letter, a digit, or -, the first one a letter.
func TestRight(t *testing.T) {
	for _, s := range []string{"a", "z", "acme", "a0", "a9", "a-", "a--", "z-9-", strings.Repeat("a", 32), "a" + strings.Repeat("-", 31)} {
		if !Right(s) || Length(s) != len(s) {
			t.Errorf("%q is no name: %d", s, Length(s))
		}
	}
	for _, s := range []string{"", "0", "9a", "-", "-a", "A", "aA", "Acme", "a_b", "a.b", "a b", " a", "a ", "a/", "a#", "a\x00", "\x00", "a\xff", "ä", "aä", "a`", "a{", "a:", "a,", strings.Repeat("a", 33), strings.Repeat("a", 1000)} {
		if Right(s) {
			t.Errorf("%q is a name", s)
		}
	}
}

// Every byte: which may be the first one, and which one behind it.
func TestEveryByte(t *testing.T) {
	const letters, more = "abcdefghijklmnopqrstuvwxyz", "0123456789-"
	for i := range 256 {
		c := byte(i)
		first := strings.IndexByte(letters, c) >= 0
		if Right(string([]byte{c})) != first {
			t.Errorf("%#x as a name: %v", c, !first)
		}
		if behind := first || strings.IndexByte(more, c) >= 0; Right(string([]byte{'a', c})) != behind {
			t.Errorf("%#x in a name: %v", c, !behind)
		}
	}
}

// The length of a name at the beginning of a text.
func TestLength(t *testing.T) {
	for s, want := range map[string]int{
		"": 0, "/a": 0, "A": 0, "1a": 0, "-": 0, "a": 1, "a/b": 1, "acme-1/ann": 6, "acme#admin": 4, "aXb": 1,
		strings.Repeat("b", 31): 31, strings.Repeat("b", 32) + "/": 32, strings.Repeat("b", 33): 32, strings.Repeat("b", 99): 32,
	} {
		if n := Length(s); n != want {
			t.Errorf("Length(%q) = %d, want %d", s, n, want)
		}
	}
}
