package cursor

import (
	"math/rand"
	"slices"
	"testing"

	"belfry/api"
	"belfry/attr"
)

// faulty tells whether a reading throws, and how far the text was read, or the place of its fault.
func faulty(c *Cursor, read func()) (failed bool, at int) {
	defer func() {
		if recover() != nil {
			failed, at = true, c.At()
		}
	}()
	read()
	return false, c.At()
}

// Each reading goes on behind what was read by the one ahead of it.
func TestReadings(t *testing.T) {
	c := Of("{a=\"1\"} \tword|= \"x\\ny\" key !~ \"\" 5")
	if l := c.Matchers(); len(l) != 1 || l[0] != (api.Matcher{Op: api.MEq, Key: "a", Value: "1"}) || c.At() != 7 {
		t.Errorf("Matchers: %v, %d", l, c.At())
	}
	if n := c.Blanks(); n != 2 || c.At() != 9 || c.Blanks() != 0 {
		t.Errorf("Blanks: %d, %d", n, c.At())
	}
	if s := c.Word(); s != "word" || c.At() != 13 {
		t.Errorf("Word: %s, %d", s, c.At())
	}
	if c.Takes("||") || c.At() != 13 || !c.Takes("|") || c.At() != 14 {
		t.Errorf("Takes: %d", c.At())
	}
	c.Need("=")
	if s := c.Value(); s != "x\ny" || c.At() != 22 {
		t.Errorf("Value: %q, %d", s, c.At())
	}
	c.Blanks()
	if m := c.Matcher(c.Word()); m != (api.Matcher{Op: api.MNot, Key: "key"}) || c.At() != 32 {
		t.Errorf("Matcher: %v, %d", m, c.At())
	}
	if s := c.Rest(); s != " 5" || c.Cut(1) != " " || c.Number(c.Cut(1), 5) != 5 || c.Rest() != "" || c.At() != 34 {
		t.Errorf("Rest: %q, %d", s, c.At())
	}
}

// Where a reading that can not go on has its fault: at the first byte that can not stand, or at the end.
func TestFaults(t *testing.T) {
	need := func(c *Cursor) { c.Need("!=") }
	word := func(c *Cursor) { c.Word() }
	value := func(c *Cursor) { c.Value() }
	matcher := func(c *Cursor) { c.Matcher("a") }
	for _, x := range []struct {
		s    string
		read func(*Cursor)
		at   int
	}{
		{"", need, 0}, {"!", need, 0}, {"x!=", need, 0},
		{"", word, 0}, {" a", word, 0}, {"5", word, 0}, {"\"a\"", word, 0},
		{"", value, 0}, {" \t", value, 2}, {" x", value, 1}, {" \"x", value, 3}, {"\"\\x\"", value, 2}, {"\"\n\"", value, 1}, {"\"\\", value, 2},
		{"", matcher, 0}, {" x", matcher, 1}, {" !", matcher, 2}, {"! =", matcher, 1}, {"=", matcher, 1}, {"= 5", matcher, 2}, {"=~\"", matcher, 3},
	} {
		c := Of(x.s)
		if failed, at := faulty(&c, func() { x.read(&c) }); !failed || at != x.at {
			t.Errorf("%q: %v, %d, want %d", x.s, failed, at, x.at)
		}
	}
	c := Of("abc")
	if failed, at := faulty(&c, func() { c.Fail(2) }); !failed || at != 2 {
		t.Errorf("Fail: %v, %d", failed, at)
	}
}

// A number is digits without a 0 ahead, from 1 to the most that may be; else its fault is where it begins.
func TestNumber(t *testing.T) {
	for s, want := range map[string]int{"1": 1, "9": 9, "10": 10, "99": 99, "100": 100, "": 0, "0": 0, "00": 0, "01": 0, "101": 0, "1000": 0, "99999999999999999999": 0, "18446744073709551617": 0, "x": 0, "5x": 0, "+5": 0, "-5": 0, "5.": 0, "1_0": 0, " 5": 0, "0x5": 0} {
		c := Of("ab" + s)
		c.Cut(2)
		got := 0
		failed, at := faulty(&c, func() { got = c.Number(c.Cut(len(s)), 100) })
		if got != want || failed != (want == 0) || failed && at != 2 {
			t.Errorf("Number(%q) = %d, %v, %d", s, got, failed, at)
		}
	}
}

// Matchers are those of attr, and so are the places of their faults; behind them anything may stand, and they may be such as can not be.
func TestMatchersAsInAttr(t *testing.T) {
	r := rand.New(rand.NewSource(15))
	pieces := []string{"a", "b.c", "=", "!=", "=~", "!~", "!", "\"x\"", "\"\"", "\"", "\\", ",", "}", " ", "\t", "{", "a=\"1\"", "b!~\"2\",", "\n", "5"}
	right := 0
	for range 50000 {
		s := "{"
		for range r.Intn(8) {
			s += pieces[r.Intn(len(pieces))]
		}
		if r.Intn(2) == 0 {
			s += "}"
		}
		c := Of(s)
		var l []api.Matcher
		failed, at := faulty(&c, func() { l = c.Matchers() })
		want, e, place := attr.ParseMatch(s[:at])
		if failed {
			want, e, place = attr.ParseMatch(s)
		}
		if failed != (e == api.ErrForm) || failed && at != place || !failed && !slices.Equal(l, want) {
			t.Fatalf("Matchers of %q: %v, %v, %d, want %v, %d, %d", s, l, failed, at, want, e, place)
		}
		if !failed {
			right++
		}
	}
	if right < 2000 {
		t.Errorf("%d texts are matchers: the test tells little", right)
	}
	c := Of("{" + string(slices.Repeat([]byte("a=\"\xff\","), 9)) + "a=\"\"}x")
	if l := c.Matchers(); len(l) != 10 || l[8].Value != "\xff" || c.Rest() != "x" {
		t.Errorf("matchers that can not be: %v, %q", l, c.Rest())
	}
}
