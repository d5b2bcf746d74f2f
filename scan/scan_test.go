package scan

import (
	"math/rand"
	"regexp"
	"strings"
	"testing"

	"belfry/api"
	"belfry/attr"
)

// How many bytes blanks, digits, numbers and words have at the beginning of a text.
func TestLengths(t *testing.T) {
	for _, c := range []struct {
		s                            string
		blanks, digits, number, word int
	}{
		{"", 0, 0, 0, 0}, {" ", 1, 0, 0, 0}, {" \t \tx ", 4, 0, 0, 0}, {"\n ", 0, 0, 0, 0}, {"\u00a0", 0, 0, 0, 0},
		{"0", 0, 1, 1, 0}, {"0123456789 1", 0, 10, 10, 0}, {"1.5", 0, 1, 3, 0}, {"1.", 0, 1, 2, 0}, {"1..2.x", 0, 1, 5, 0}, {"5m", 0, 1, 1, 0}, {".5", 0, 0, 0, 0}, {"٣", 0, 0, 0, 0},
		{"a", 0, 0, 0, 1}, {"_", 0, 0, 0, 1}, {"Z9.a_ b", 0, 0, 0, 5}, {"az.", 0, 0, 0, 3}, {"a-b", 0, 0, 0, 1}, {"é", 0, 0, 0, 0}, {"aé", 0, 0, 0, 1}, {"@[`{", 0, 0, 0, 0}, {"a/:@[`{", 0, 0, 0, 1},
	} {
		if Blanks(c.s) != c.blanks || Digits(c.s) != c.digits || Number(c.s) != c.number || Word(c.s) != c.word {
			t.Errorf("%q: %d blanks, %d digits, %d of a number, %d of a word", c.s, Blanks(c.s), Digits(c.s), Number(c.s), Word(c.s))
		}
	}
}

// Every byte at the beginning of a word, and within it: just those of which attr says that they can stand there.
func TestWordBytes(t *testing.T) {
	for i := range 256 {
		c := string([]byte{byte(i)})
		if (Word(c) == 1) != attr.Key(c) || (Word("a"+c) == 2) != attr.Key("a"+c) {
			t.Errorf("the byte %q", c)
		}
	}
	if long := strings.Repeat("a.9", 1000); Word(long) != 3000 {
		t.Error("a long word")
	}
}

// Run: words, numbers, and numbers with letters behind them.
func TestRun(t *testing.T) {
	for s, want := range map[string]int{
		"": 0, " a": 0, ".5": 0, "-5": 0, "é": 0, "{": 0, "\"x\"": 0, "a": 1, "spans named": 5, "a.9_Z{": 5, "_": 1, "5": 1, "5ms": 3, "5ms{": 3, "1.5.s": 5, "1.5.s é": 5, "10x9.y,": 6, "5m-s": 2, "5é": 1, "0_": 2,
	} {
		if n := Run(s); n != want {
			t.Errorf("Run(%q) = %d, want %d", s, n, want)
		}
	}
	for i := range 256 {
		c := string([]byte{byte(i)})
		if within := attr.Key("a" + c); (Run(c) == 1) != (within && c != ".") || (Run("5"+c) == 2) != within || (Run("a"+c) == 2) != within {
			t.Errorf("the byte %q", c)
		}
	}
}

// Operators, and what may begin one.
func TestOperator(t *testing.T) {
	for _, c := range []struct {
		s     string
		op, n int
		ok    bool
	}{
		{"=", api.MEq, 1, true}, {"==", api.MEq, 1, true}, {"= ~", api.MEq, 1, true}, {"=!", api.MEq, 1, true}, {`="x"`, api.MEq, 1, true},
		{"=~", api.MHas, 2, true}, {"=~~", api.MHas, 2, true}, {"!=", api.MNe, 2, true}, {"!==", api.MNe, 2, true}, {"!~", api.MNot, 2, true}, {"!~=", api.MNot, 2, true},
		{"!", 0, 1, false}, {"! =", 0, 1, false}, {"!!=", 0, 1, false}, {"", 0, 0, false}, {"~", 0, 0, false}, {"~=", 0, 0, false}, {" =", 0, 0, false}, {"x=", 0, 0, false},
	} {
		if op, n, ok := Operator(c.s); op != c.op || n != c.n || ok != c.ok {
			t.Errorf("Operator(%q) = %d, %d, %v", c.s, op, n, ok)
		}
	}
}

// Texts in quotes, and the place of the first byte that can not stand in one.
func TestQuoted(t *testing.T) {
	for _, c := range []struct {
		s  string
		n  int
		ok bool
	}{
		{`""`, 2, true}, {`"a"`, 3, true}, {`"a" "b"`, 3, true}, {`"a""`, 3, true}, {`"\""`, 4, true}, {`"\\"`, 4, true}, {`"\n"x`, 4, true}, {"\"\t\xff\x00é\"", 7, true},
		{``, 0, false}, {`a"`, 0, false}, {` ""`, 0, false}, {`\"`, 0, false},
		{`"`, 1, false}, {`"a`, 2, false}, {`"\`, 2, false}, {`"\"`, 3, false}, {`"\x"`, 2, false}, {`"ab\ "`, 4, false}, {"\"a\n\"", 2, false}, {"\"\\\n\"", 2, false},
	} {
		if n, ok := Quoted(c.s); n != c.n || ok != c.ok {
			t.Errorf("Quoted(%q) = %d, %v", c.s, n, ok)
		}
	}
}

// Texts of any bytes: what is told as a text in quotes attr can read, and no longer beginning of one that is not can be ended.
func TestQuotedOfAnything(t *testing.T) {
	r := rand.New(rand.NewSource(13))
	right := regexp.MustCompile(`^"(?:[^"\\\n]|\\["\\n])*"`)
	begun := regexp.MustCompile(`^(?:"(?:[^"\\\n]|\\["\\n])*\\?)?`)
	for range 50000 {
		b := make([]byte, r.Intn(8))
		for i := range b {
			b[i] = "\"\"\\\\nx\n\xff "[r.Intn(9)]
		}
		s := string(b)
		n, ok := Quoted(s)
		if ok != right.MatchString(s) || ok && n != len(right.FindString(s)) || !ok && n != len(begun.FindString(s)) {
			t.Fatalf("Quoted(%q) = %d, %v", s, n, ok)
		}
		if _, e := attr.Unquote(s[:n]); ok != (e == api.OK) {
			t.Fatalf("Unquote(%q) = %d", s[:n], e)
		}
	}
}
