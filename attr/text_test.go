package attr

import (
	"math/rand"
	"slices"
	"strings"
	"testing"

	"belfry/api"
)

// P4.3: a text of any list, in its order.
func TestText(t *testing.T) {
	for _, c := range []struct {
		l    []api.Attr
		want string
	}{
		{nil, `{}`},
		{[]api.Attr{at("a", "1")}, `{a="1"}`},
		{[]api.Attr{at("a", "1"), at("b", "2")}, `{a="1", b="2"}`},
		{[]api.Attr{at("b", "2"), at("a", "1"), at("b", "")}, `{b="2", a="1", b=""}`},
		{[]api.Attr{at("a", "x\"y\\z\nq\tr"), at("b", "é\xff\x00")}, "{a=\"x\\\"y\\\\z\\nq\tr\", b=\"é\xff\x00\"}"},
		{[]api.Attr{at("", "x"), at("no key", "y")}, `{="x", no key="y"}`},
	} {
		if got := Text(c.l); got != c.want {
			t.Errorf("Text(%q) = %s, want %s", c.l, got, c.want)
		}
	}
}

// P4.4: a text of any matchers, in their order; an operator that is none leaves nothing.
func TestMatchText(t *testing.T) {
	for _, c := range []struct {
		l    []api.Matcher
		want string
	}{
		{nil, `{}`},
		{[]api.Matcher{ma(1, "a", "1")}, `{a="1"}`},
		{[]api.Matcher{ma(4, "b", ""), ma(3, "b", "\n"), ma(2, "a", "\""), ma(1, "a", "\\"), ma(1, "a", "\\")}, `{b!~"", b=~"\n", a!="\"", a="\\", a="\\"}`},
		{[]api.Matcher{ma(0, "a", "1"), ma(5, "", "")}, `{a"1", ""}`},
	} {
		if got := MatchText(c.l); got != c.want {
			t.Errorf("MatchText(%+v) = %s, want %s", c.l, got, c.want)
		}
	}
}

// P4.5: quotes, backslashes and line ends are written with a backslash; all else for itself.
func TestQuote(t *testing.T) {
	for s, want := range map[string]string{
		"":           `""`,
		"abc":        `"abc"`,
		`"`:          `"\""`,
		`\`:          `"\\"`,
		"\n":         `"\n"`,
		`\n`:         `"\\n"`,
		`\"`:         `"\\\""`,
		"\t\r\x00é'": "\"\t\r\x00é'\"",
		"\xff\x80":   "\"\xff\x80\"",
		"{a=\"1\"}":  `"{a=\"1\"}"`,
	} {
		if got := Quote(s); got != want {
			t.Errorf("Quote(%q) = %s, want %s", s, got, want)
		}
	}
}

// P4.5: just one quoted text, and what is none.
func TestUnquote(t *testing.T) {
	for s, want := range map[string]string{
		`""`: "", `"abc"`: "abc", `"\""`: `"`, `"\\"`: `\`, `"\n"`: "\n", `"\\n"`: `\n`, "\"\t\xff\x00\"": "\t\xff\x00",
	} {
		if got, e := Unquote(s); got != want || e != api.OK {
			t.Errorf("Unquote(%s) = %q, %d", s, got, e)
		}
	}
	for _, s := range []string{``, `"`, `a`, `"a`, `a"`, `"a" `, ` "a"`, `"a""`, `"a""b"`, `"\`, `"\"`, `"\\\"`, `"\t"`, `"\x"`, `"\N"`, `"\ "`, `"\'"`, "\"\n\"", "\"a\nb\"", "\"\\\n\"", `'a'`, `"a"b`, "\"a\"\n"} {
		if got, e := Unquote(s); got != "" || e != api.ErrForm {
			t.Errorf("Unquote(%q) = %q, %d", s, got, e)
		}
	}
	for x := range 256 {
		s := "\"\\" + string([]byte{byte(x)}) + "\""
		want := strings.IndexByte("\"\\n", byte(x)) >= 0
		if _, e := Unquote(s); (e == api.OK) != want {
			t.Errorf("Unquote(%q) = %d", s, e)
		}
	}
	long := strings.Repeat("\"\\\nx", api.MaxText)
	if got, e := Unquote(Quote(long)); got != long || e != api.OK {
		t.Errorf("Unquote of a long text = %d", e)
	}
}

// P4.6: what is quoted is read again as it was, whatever bytes it has.
func TestUnquoteQuote(t *testing.T) {
	r := rand.New(rand.NewSource(45))
	for range 20000 {
		b := make([]byte, r.Intn(12))
		for i := range b {
			b[i] = "\"\\\nnab\t\xff"[r.Intn(8)]
			if r.Intn(4) == 0 {
				b[i] = byte(r.Intn(256))
			}
		}
		if got, e := Unquote(Quote(string(b))); got != string(b) || e != api.OK {
			t.Fatalf("Unquote(Quote(%q)) = %q, %d", b, got, e)
		}
	}
}

// P4.6: sets, and matchers that can be, are read again as they were written.
func TestParseText(t *testing.T) {
	r := rand.New(rand.NewSource(46))
	full, _ := Make(someAttrs(api.MaxAttrs)...)
	for i := range 5000 {
		l, m := anySet(r, 8), anyMatchers(r, r.Intn(api.MaxMatch+1))
		if i == 0 {
			l = full
		}
		if got, e, place := Parse(Text(l)); !slices.Equal(got, l) || e != api.OK || place != 0 {
			t.Fatalf("Parse(%s) = %q, %d, %d", Text(l), got, e, place)
		}
		if got, e, place := ParseMatch(MatchText(m)); !slices.Equal(got, m) || e != api.OK || place != 0 {
			t.Fatalf("ParseMatch(%s) = %+v, %d, %d", MatchText(m), got, e, place)
		}
	}
}
