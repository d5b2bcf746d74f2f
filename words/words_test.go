package words

import (
	"math"
	"slices"
	"strings"
	"testing"

	"belfry/api"
	"belfry/attr"
)

// The words of kinds, and that there is none of other numbers.
func TestKind(t *testing.T) {
	for kind, want := range map[int]string{
		0: "any", api.KPoint: "metrics", api.KLine: "logs", api.KSpan: "traces",
		-1: "", 4: "", math.MaxInt: "", math.MinInt: "",
	} {
		if s := Kind(kind); s != want {
			t.Errorf("Kind(%d) = %q", kind, s)
		}
	}
	for kind := range 4 {
		l, got := Of(Kind(kind)+" x"), -1
		if !l.Kind(&got) || got != kind || l.rest != " x" {
			t.Errorf("%s is read as %d, and %q is left", Kind(kind), got, l.rest)
		}
	}
	for _, s := range []string{"", " any", "Any", "anyx", "metric", "logs,", "trace", "log", "0"} {
		if got := 0; Of(s).Kind(&got) {
			t.Errorf("%q is read as %d", s, got)
		}
	}
}

// A piece is taken where it comes next, and else nothing is read.
func TestTake(t *testing.T) {
	l := Of("ab c")
	if l.Ended() || l.Take("b") || l.Take("ab  ") || l.Take("ab c ") || !l.Take("ab ") || l.Take("ab ") || !l.Take("") || l.rest != "c" {
		t.Errorf("%q is left", l.rest)
	}
	if l.Ended() || !l.Take("c") || !l.Ended() || l.Take("c") || !l.Ended() {
		t.Error("the end")
	}
	if !Of("").Ended() {
		t.Error("an empty line has not ended")
	}
}

// A word ends at a blank, which is not read, and has a byte at least.
func TestWord(t *testing.T) {
	for _, c := range []struct {
		s, word, rest string
		ok            bool
	}{
		{"a", "a", "", true}, {"ab c", "ab", " c", true}, {"a  b", "a", "  b", true}, {"a\tb\xff c", "a\tb\xff", " c", true}, {"é,{ ", "é,{", " ", true},
		{"", "", "", false}, {" ", "", " ", false}, {" a", "", " a", false},
	} {
		l, word := Of(c.s), "?"
		if ok := l.Word(&word); ok != c.ok || word != c.word || l.rest != c.rest {
			t.Errorf("of %q the word %q (%v) is read, and %q is left", c.s, word, ok, l.rest)
		}
	}
}

// Numbers of at most 16 digits, without a 0 ahead of others.
func TestNumber(t *testing.T) {
	for s, want := range map[string]int64{
		"0": 0, "1": 1, "10": 10, "9007199254740992": 1 << 53, "9999999999999999": 9999999999999999, "7 x": 7,
	} {
		var n int64
		if l := Of(s); !l.Number(&n) || n != want || l.rest != strings.TrimLeft(s, "0123456789") {
			t.Errorf("%q is read as %d, and %q is left", s, n, l.rest)
		}
	}
	for _, s := range []string{
		"", " ", " 1", "00", "01", "007", "+1", "+0", "-1", "-0", "1.0", "1e3", "0x1", "1_0", "a", "1a", "1,", "é", "٣",
		"10000000000000000", "00000000000000001", "9223372036854775807", "9223372036854775808", strings.Repeat("9", 1000),
	} {
		var n int64
		if Of(s).Number(&n) || n != 0 {
			t.Errorf("%q is read as %d", s, n)
		}
	}
}

// Keys have a comma and a blank between two; whether they can be is not asked.
func TestKeys(t *testing.T) {
	for _, c := range []struct {
		s    string
		want []string
		rest string
	}{
		{"a", []string{"a"}, ""}, {"a, b", []string{"a", "b"}, ""}, {"a, b, a", []string{"a", "b", "a"}, ""}, {"1-, é", []string{"1-", "é"}, ""},
		{"a b", []string{"a"}, " b"}, {"a,b", []string{"a"}, ",b"}, {"a ,b", []string{"a"}, " ,b"}, {"a,", []string{"a"}, ","}, {"a,\tb", []string{"a"}, ",\tb"},
	} {
		var keys []string
		if l := Of(c.s); !l.Keys(&keys) || !slices.Equal(keys, c.want) || l.rest != c.rest {
			t.Errorf("of %q the keys %q are read, and %q is left", c.s, keys, l.rest)
		}
	}
	for _, s := range []string{"", " ", " a", ",", ", a", "a, ", "a, , b", "a,  b", "a, b, "} {
		if keys := []string{}; Of(s).Keys(&keys) {
			t.Errorf("of %q the keys %q are read", s, keys)
		}
	}
}

// Matchers are read as they are written, and what stands behind them is left.
func TestMatchers(t *testing.T) {
	long := strings.Repeat("k", api.MaxKey+1)
	many := slices.Repeat([]api.Matcher{{Op: api.MEq, Key: "a"}}, 100)
	for _, want := range [][]api.Matcher{
		{{Op: api.MEq, Key: "env", Value: "prod"}},
		{{Op: api.MNe, Key: "_", Value: ""}, {Op: api.MHas, Key: "a.b", Value: "x y"}, {Op: api.MNot, Key: "Z9", Value: "=~"}, {Op: api.MEq, Key: "a", Value: "~"}},
		{{Op: api.MEq, Key: "b", Value: "}"}, {Op: api.MEq, Key: "a", Value: `", c="{`}, {Op: api.MEq, Key: "a", Value: `\`}, {Op: api.MEq, Key: "a", Value: "\n\\n\t\x00é"}},
		{{Op: api.MNot, Key: long, Value: strings.Repeat("v", api.MaxValue+1)}, {Op: api.MHas, Key: "k", Value: "\xff"}},
		many,
	} {
		for _, behind := range []string{"", " hide a", "}", " "} {
			var got []api.Matcher
			if l := Of(attr.MatchText(want) + behind); !l.Matchers(&got) || !slices.Equal(got, want) || l.rest != behind {
				t.Errorf("%v are read as %v, and %q is left", want, got, l.rest)
			}
		}
	}
}

// Texts of matchers that are not as they are written.
func TestNoMatchers(t *testing.T) {
	for _, s := range []string{
		``, `{`, `{}`, `}`, `a="1"`, ` {a="1"}`, `{ a="1"}`, `{a="1" }`, `{a ="1"}`, `{a= "1"}`, "{a=\t\"1\"}", "{\ta=\"1\"}",
		`{a="1",b="2"}`, `{a="1",  b="2"}`, "{a=\"1\",\tb=\"2\"}", `{a="1" ,b="2"}`, `{a="1", }`, `{a="1",}`, `{, a="1"}`, `{a="1"; b="2"}`, `{a="1"b="2"}`,
		`{a="1"`, `{a="1", `, `{a="1`, `{a="`, `{a=`, `{a!`, `{a`, `{a="1\"}`, `{a="1\`, `{a="\t"}`, "{a=\"\n\"}",
		`{a=1}`, `{a=='1'}`, `{a=="1"}`, `{a!"1"}`, `{a~"1"}`, `{a~="1"}`, `{a=!"1"}`, `{a! ="1"}`, `{a= ~"1"}`, `{a"1"}`, `{a=x"1"}`,
		`{1a="1"}`, `{.a="1"}`, `{="1"}`, `{a-b="1"}`, `{é="1"}`, `{a b="1"}`, `{` + strings.Repeat("k", 80) + `-="1"}`,
	} {
		if got := []api.Matcher(nil); Of(s).Matchers(&got) {
			t.Errorf("%q is read as %v", s, got)
		}
	}
}

// Every byte within a key, and ahead of it: just those of which attr says that they can stand there.
func TestKeyBytes(t *testing.T) {
	for i := range 256 {
		c := string([]byte{byte(i)})
		for _, key := range []string{c, "a" + c, strings.Repeat("a", 70) + c} {
			var got []api.Matcher
			ok := Of("{" + key + `!~"1"}`).Matchers(&got)
			if want := attr.Key(key[max(0, len(key)-2):]); ok != want {
				t.Errorf("a key %q: %v", key, ok)
			}
		}
	}
}
