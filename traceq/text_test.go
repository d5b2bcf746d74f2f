package traceq

import (
	"math/rand"
	"regexp"
	"slices"
	"strconv"
	"strings"
	"testing"

	"belfry/api"
	"belfry/attr"
	"belfry/metricq"
)

// Example 1 of the chapter.
func TestExample(t *testing.T) {
	s := `spans named "GET" least 5ms {env="prod"} with child named "query" limit 10`
	want := api.TraceQuery{First: api.SpanTest{Name: "GET", Least: 5000000, Match: many(1, ma(1, "env", "prod"))}, Second: api.SpanTest{Name: "query"}, Has: 2, Limit: 10}
	if q, e, at := Parse(s); !Same(q, want) || e != api.OK || at != 0 {
		t.Errorf("Parse = %v, %d, %d", q, e, at)
	}
	if p, e := Print(want); p != s || e != api.OK {
		t.Errorf("Print = %s, %d", p, e)
	}
	if q, e, at := Parse("spans"); !Same(q, api.TraceQuery{}) || e != api.OK || at != 0 {
		t.Errorf("Parse(spans) = %v, %d, %d", q, e, at)
	}
	checkPlaces(t, map[string]int{"spans with": 10, "span": 0, "spans least 0s": 12})
}

func checkPlaces(t *testing.T, places map[string]int) {
	t.Helper()
	for s, want := range places {
		if q, e, at := Parse(s); e != api.ErrQuery || at != want || !Same(q, api.TraceQuery{}) {
			t.Errorf("Parse(%q) = %v, %d, %d, want the place %d", s, q, e, at, want)
		}
		if place := modelPlace(s); place != want {
			t.Errorf("the model's place in %q is %d, want %d", s, place, want)
		}
	}
}

// P15.2: each part, with the blanks that may stand, and how it is written.
func TestParts(t *testing.T) {
	match := []api.Matcher{ma(1, "a", "1"), ma(4, "b", "}")}
	for _, c := range []struct {
		s, written string
		want       api.TraceQuery
	}{
		{" \tspans\t ", `spans`, api.TraceQuery{}},
		{`spans named "x"`, `spans named "x"`, first(api.SpanTest{Name: "x"})},
		{"spans\tnamed\"x\"  ", `spans named "x"`, first(api.SpanTest{Name: "x"})},
		{`spans named "\"\\\n with child"`, `spans named "\"\\\n with child"`, first(api.SpanTest{Name: "\"\\\n with child"})},
		{`spans least 1ns`, `spans least 1ns`, first(api.SpanTest{Least: 1})},
		{"spans  least\t60s", `spans least 1m`, first(api.SpanTest{Least: 60000000000})},
		{`spans least 1000ns`, `spans least 1us`, first(api.SpanTest{Least: 1000})},
		{`spans least 999999999ns`, `spans least 999999999ns`, first(api.SpanTest{Least: 999999999})},
		{`spans least 312h`, `spans least 312h`, first(api.SpanTest{Least: 312 * 3600000000000})},
		{"spans{a=\"1\",b!~\"}\"}", `spans {a="1", b!~"}"}`, first(api.SpanTest{Match: match})},
		{"spans\t{ a = \"1\" ,\tb !~ \"}\" }\t\t", `spans {a="1", b!~"}"}`, first(api.SpanTest{Match: match})},
		{`spans named"x"least 5ms{a="1"}with child{a="1"}limit 3`, `spans named "x" least 5ms {a="1"} with child {a="1"} limit 3`, api.TraceQuery{First: api.SpanTest{Name: "x", Least: 5000000, Match: match[:1]}, Second: api.SpanTest{Match: match[:1]}, Has: 2, Limit: 3}},
		{`spans named "x" {a="1"}`, `spans named "x" {a="1"}`, first(api.SpanTest{Name: "x", Match: match[:1]})},
		{`spans least 5ms {a="1"}`, `spans least 5ms {a="1"}`, first(api.SpanTest{Least: 5000000, Match: match[:1]})},
		{`spans with descendant`, `spans with descendant`, api.TraceQuery{Has: 1}},
		{"spans  with\tchild ", `spans with child`, api.TraceQuery{Has: 2}},
		{`spans with descendant named "y" least 2h {b!~"}"}`, `spans with descendant named "y" least 2h {b!~"}"}`, below(1, api.SpanTest{Name: "y", Least: 7200000000000, Match: match[1:]})},
		{`spans with child least 1us`, `spans with child least 1us`, below(2, api.SpanTest{Least: 1000})},
		{`spans with child {a="1"}`, `spans with child {a="1"}`, below(2, api.SpanTest{Match: match[:1]})},
		{`spans limit 1`, `spans limit 1`, api.TraceQuery{Limit: 1}},
		{"spans limit \t 1000\t", `spans limit 1000`, api.TraceQuery{Limit: 1000}},
		{`spans with child limit 999`, `spans with child limit 999`, api.TraceQuery{Has: 2, Limit: 999}},
		{`spans named "named" {named="least"} with descendant named "limit" {with="child"}`, `spans named "named" {named="least"} with descendant named "limit" {with="child"}`, api.TraceQuery{First: api.SpanTest{Name: "named", Match: many(1, ma(1, "named", "least"))}, Second: api.SpanTest{Name: "limit", Match: many(1, ma(1, "with", "child"))}, Has: 1}},
		{`spans named "é	"`, `spans named "é	"`, first(api.SpanTest{Name: "é\t"})},
	} {
		if q, e, at := Parse(c.s); !Same(q, c.want) || e != api.OK || at != 0 {
			t.Errorf("Parse(%q) = %v, %d, %d, want %v", c.s, q, e, at, c.want)
		}
		if s, e := Print(c.want); s != c.written || e != api.OK {
			t.Errorf("%q is written %q, %d", c.s, s, e)
		}
	}
}

// P15.2: the first byte with which a text can not go on; of a word that can not stand, of a span, of a number its first one.
func TestPlaces(t *testing.T) {
	checkPlaces(t, map[string]int{
		"": 0, " ": 1, " \t": 2, "x": 0, "Spans": 0, "spansx": 0, "spans5": 0, "spans.": 0, "spans_": 0, " span s": 1, "\nspans": 0, "5": 0, "{}": 0, `{a="1"}`: 0, `"spans"`: 0, `named "x"`: 0, "\xff": 0,
		"spans x": 6, "spans spans": 6, "spans,": 5, "spans \n": 6, "spans\n": 5, `spans "x"`: 6, `spans"x"`: 5, "spans 5": 6, "spans 5ms": 6, "spans child": 6, "spans descendant": 6, "spans names": 6, "spans Named": 6, "spans -": 6, "spans }": 6, "spans (": 6, "spansé": 5, "spans.named": 0,
		"spans named": 11, "spans named ": 12, "spans named x": 12, "spans named 5": 12, "spans named {": 12, "spans named least 5ms": 12, `spans named ""`: 12, `spans named   "" x`: 14, `spans named""`: 11, `spans named "`: 13, `spans named "x`: 14, `spans named "\`: 14, `spans named "\x"`: 14, `spans named "\"`: 15, "spans named \"x\n\"": 14, `spans named "x" y`: 16, `spans named "x"y`: 15, `spans named "x""y"`: 15, `spans named "x" named "y"`: 16, `spans named "x" "y"`: 16, `spans named "x",`: 15, `spans namedx "x"`: 6, "spans named\n\"x\"": 11,
		"spans least": 11, "spans least ": 12, "spans least x": 12, "spans least 5": 12, "spans least 5 ms": 12, "spans least ms": 12, "spans least 05s": 12, "spans least 0": 12, "spans least 5x": 12, "spans least 5sx": 12, "spans least 5s5": 12, "spans least 5S": 12, "spans least 1.5s": 12, "spans least 5s.": 12, "spans least -5s": 12, "spans least +5s": 12, "spans least 1234567890ns": 12, "spans least 313h": 12, "spans least 999999999h": 12, `spans least "5s"`: 12, "spans least {": 12, "spans least 5s x": 15, "spans least 5s,": 14, "spans least 5s 5s": 15, "spans least 5s least 5s": 15, `spans least 5s named "x"`: 15, `spans least 5s "x"`: 15, "spans least5s": 6, "spans least 5sé": 14, "spans least 5s-": 14, "spans leasts 5s": 6,
		"spans {}": 6, "spans{}": 5, "spans { \t}": 6, "spans {} x": 6, "spans {": 7, "spans { ": 8, "spans {{": 7, "spans {,}": 7, "spans {a": 8, "spans {a}": 8, "spans {1": 7, `spans {"a"`: 7, "spans {a b": 9, "spans {a=": 9, "spans {a=1}": 9, "spans {a!": 9, "spans {a!x": 9, `spans {a! ="1"}`: 9, "spans {a~": 8, "spans {a=~": 10, "spans {a= ~": 10, `spans {a="`: 10, `spans {a="1`: 11, `spans {a="\x`: 11, "spans {a=\"\n": 10, `spans {a="1"`: 12, `spans {a="1" b`: 13, `spans {a="1",`: 13, `spans {a="1",}`: 13, `spans {a="1"}}`: 13, `spans {a="1"}{a="1"}`: 13, `spans {a="1"} {a="1"}`: 14, `spans {a="1"} named "x"`: 14, `spans {a="1"} least 5s`: 14, `spans {a="1"} x`: 14, `spans {a="1"}x`: 13, `spans {a="1"} {}`: 14,
		"spans with ": 11, "spans with x": 11, "spans with childs": 11, "spans with Child": 11, "spans with children": 11, "spans with descendants": 11, "spans with5": 6, "spans with 5": 11, `spans with "child"`: 11, "spans with {": 11, "spans with limit 5": 11, `spans with named "x"`: 11, "spans with child descendant": 17, "spans with child child": 17, "spans with child with child": 17, "spans with descendant with": 22, "spans with child x": 17, "spans with child,": 16, "spans with child {}": 17, "spans with child named": 22, `spans with child named ""`: 23, "spans with child least 0s": 23, `spans with child least 5s named "x"`: 26, `spans with child named "x" named "x"`: 27, `spans with child {a="1"} with child {a="1"}`: 25, "spans withchild": 6, "spans with\nchild": 10, "spans child with": 6,
		"spans limit": 11, "spans limit ": 12, "spans limit x": 12, "spans limit 0": 12, "spans limit 00": 12, "spans limit 01": 12, "spans limit 1001": 12, "spans limit 99999999999999999999": 12, "spans limit -1": 12, "spans limit +1": 12, "spans limit 5x": 12, "spans limit 5s": 12, "spans limit 5.0": 12, "spans limit 5_": 12, `spans limit "5"`: 12, "spans limit 5,": 13, "spans limit 5 x": 14, "spans limit 5 5": 14, "spans limit 5 limit 5": 14, "spans limit 5 with child": 14, `spans limit 5 named "x"`: 14, "spans limit 5 least 5s": 14, `spans limit 5 {a="1"}`: 14, `spans limit 5{a="1"}`: 13, "spans limit5": 6, "spans limit limit": 12, "spans limit 5\n": 13, "spans limit 5é": 13, "spans with child limit": 22, "spans with child limit 0": 23, "spans with child limit 5 with child": 25, "spans limits 5": 6,
	})
}

// P15.2: Right's error of what a text says, and 0, behind all faults of its form, and in Right's order.
func TestParseRight(t *testing.T) {
	nine := `{` + strings.Repeat(`a="1", `, 8) + `a="1"}`
	long := `{` + strings.Repeat("k", 65) + `="1"}`
	value := `"` + strings.Repeat("v", 257) + `"`
	for _, c := range []struct {
		s string
		e api.Errno
	}{
		{`spans named ` + value, api.ErrValue}, {"spans named \"\xff\" " + nine, api.ErrValue}, {`spans ` + nine, api.ErrFull}, {`spans ` + nine + ` with child named ` + value, api.ErrFull}, {`spans ` + long, api.ErrKey}, {`spans {a=` + value + `}`, api.ErrValue}, {"spans {a=\"\xff\"} with child " + long, api.ErrValue},
		{`spans with child named ` + value, api.ErrValue}, {`spans with descendant ` + nine, api.ErrFull}, {`spans with child ` + long, api.ErrKey}, {`spans ` + long + ` with child ` + nine, api.ErrKey}, {`spans with child {` + strings.Repeat(`a="", `, 7) + `a=""}`, api.OK}, {`spans named ` + strings.Replace(value, "v", "", 1), api.OK},
	} {
		q, e, at := Parse(c.s)
		if e != c.e || at != 0 || e != api.OK && !Same(q, api.TraceQuery{}) {
			t.Errorf("Parse(%q) = %v, %d, %d, want %d", c.s, q, e, at, c.e)
		}
		if q, e, at := Parse(c.s + " $"); e != api.ErrQuery || at != len(c.s)+1 || !Same(q, api.TraceQuery{}) {
			t.Errorf("Parse(%q) = %v, %d, %d", c.s+" $", q, e, at)
		}
	}
}

// P15.2: MaxLine bytes may be, one more is too long, whatever they are; what is written with more is Right's ErrSize.
func TestParseSize(t *testing.T) {
	if q, e, at := Parse("spans" + strings.Repeat(" ", api.MaxLine-5)); !Same(q, api.TraceQuery{}) || e != api.OK || at != 0 {
		t.Errorf("Parse of MaxLine bytes = %v, %d, %d", q, e, at)
	}
	for _, s := range []string{"spans" + strings.Repeat(" ", api.MaxLine-4), strings.Repeat("$", api.MaxLine+1), strings.Repeat("spans ", 100000)} {
		if q, e, at := Parse(s); e != api.ErrSize || at != 0 || !Same(q, api.TraceQuery{}) {
			t.Errorf("Parse of %d bytes = %v, %d, %d", len(s), q, e, at)
		}
	}
	checkPlaces(t, map[string]int{strings.Repeat(" ", api.MaxLine): api.MaxLine, "spans" + strings.Repeat(" ", api.MaxLine-6) + "$": api.MaxLine - 1})
	for _, c := range []struct {
		last int
		e    api.Errno
	}{{241, api.OK}, {242, api.ErrSize}} { // it is written with four blanks more: ahead of the name and of {, and behind commas
		v := strings.Repeat("v", 250)
		s := `spans named"` + v + `"{a="` + v + `",b="` + v + `",c="` + strings.Repeat("v", c.last) + `"}`
		if _, e, at := Parse(s); e != c.e || at != 0 || len(s) > api.MaxLine {
			t.Errorf("Parse of %d bytes = %d, %d", len(s), e, at)
		}
	}
}

func anyTest(r *rand.Rand) api.SpanTest {
	var t api.SpanTest
	if r.Intn(2) == 0 {
		t.Name = []string{"GET", "x", " ", "\"", "a\\\nb", "é}", "with child"}[r.Intn(7)]
	}
	if r.Intn(2) == 0 {
		t.Least = int64(1+r.Intn(120)) * []int64{1, 1000, 1000000, 1000000000, 60000000000, 3600000000000}[r.Intn(6)]
	}
	for range r.Intn(3) {
		t.Match = append(t.Match, ma(1+r.Intn(4), []string{"a", "b.c", "limit"}[r.Intn(3)], []string{"", "x", "}", "\"\n"}[r.Intn(4)]))
	}
	return t
}

func anyQuery(r *rand.Rand) api.TraceQuery {
	q := api.TraceQuery{First: anyTest(r), Has: r.Intn(3), Limit: r.Intn(2) * r.Intn(1001)}
	if q.Has > 0 {
		q.Second = anyTest(r)
	}
	return q
}

// spread is a query's text with blanks wherever they may stand, and none where none must.
func spread(r *rand.Rand, q api.TraceQuery) string {
	some := func() string { return []string{"", "", " ", "\t", "  "}[r.Intn(5)] }
	one := func() string { return []string{" ", "\t", " \t "}[r.Intn(3)] }
	s := some() + "spans"
	word := func(w string) { // a blank is needed only behind what ends as a word does
		if strings.ContainsAny(s[len(s)-1:], `"}`) {
			s += some() + w
		} else {
			s += one() + w
		}
	}
	test := func(t api.SpanTest) {
		if t.Name != "" {
			word("named")
			s += some() + attr.Quote(t.Name)
		}
		if t.Least != 0 {
			span, _ := metricq.Span(t.Least)
			word("least")
			word(span)
		}
		for i, m := range t.Match {
			s += some() + []string{"{", ","}[min(i, 1)] + some() + m.Key + some() + []string{"=", "!=", "=~", "!~"}[m.Op-1] + some() + attr.Quote(m.Value)
		}
		if len(t.Match) > 0 {
			s += some() + "}"
		}
	}
	test(q.First)
	if q.Has > 0 {
		word("with")
		word([]string{"descendant", "child"}[q.Has-1])
		test(q.Second)
	}
	if q.Limit > 0 {
		word("limit")
		word(strconv.Itoa(q.Limit))
	}
	return s + some()
}

// P15.4, P9: what is written is read as it was; blanks change nothing.
func TestAsItWas(t *testing.T) {
	r := rand.New(rand.NewSource(154))
	for range 20000 {
		q := anyQuery(r)
		s, e := Print(q)
		if e != api.OK {
			t.Fatalf("Print(%v) = %d", q, e)
		}
		for _, s := range []string{s, spread(r, q)} {
			if again, e, at := Parse(s); e != api.OK || at != 0 || !Same(again, q) {
				t.Fatalf("Parse(%q) = %v, %d, %d, want %v", s, again, e, at, q)
			}
		}
	}
}

// A second way to find the place of a fault: the text is cut into pieces, each is told by a letter, and the letters must be those of a query.
var (
	piece   = regexp.MustCompile(`^(?:[a-zA-Z0-9_][a-zA-Z0-9_.]*|"(?:[^"\\\n]|\\["\\n])*"|\{[ \t]*(?:` + matcher + `[ \t]*(?:,[ \t]*` + matcher + `[ \t]*)*)?\})`)
	letters = regexp.MustCompile(`^S(NQ)?(Lp)?M?(W[DC](NQ)?(Lp)?M?)?(In)?$`)
	count   = regexp.MustCompile(`^(?:[1-9][0-9]{0,2}|1000)$`)
	empty   = regexp.MustCompile(`^(?:""|\{[ \t]*\})$`)
)

const matcher = `[a-zA-Z_][a-zA-Z0-9_.]*[ \t]*(?:[=!]~|!?=)[ \t]*"(?:[^"\\\n]|\\["\\n])*"`

func letter(s string) string {
	if i := slices.Index([]string{"spans", "named", "least", "with", "descendant", "child", "limit"}, s); i >= 0 {
		return "SNLWDCI"[i : i+1]
	}
	_, e := metricq.ParseSpan(s)
	switch {
	case e == api.OK:
		return "p"
	case count.MatchString(s):
		return "n"
	case s[0] == '"' && !empty.MatchString(s):
		return "Q"
	case s[0] == '{' && !empty.MatchString(s):
		return "M"
	}
	return "x"
}

// goesOn tells whether letters can be the first ones of a query's.
func goesOn(s string) bool {
	return slices.ContainsFunc([]string{"", "S", "Q", "p", "D", "n"}, func(end string) bool { return letters.MatchString(s + end) })
}

// modelPlace is the place of a text's fault; -1, if it has none.
func modelPlace(s string) int {
	told := ""
	for at := 0; ; {
		at += len(s[at:]) - len(strings.TrimLeft(s[at:], " \t"))
		if at == len(s) {
			if letters.MatchString(told) {
				return -1
			}
			return at
		}
		n := len(piece.FindString(s[at:]))
		if n == 0 {
			return at + begun(told, s[at:])
		}
		told += letter(s[at : at+n])
		if !goesOn(told) {
			return at
		}
		at += n
	}
}

// begun tells how many bytes of a piece that is none can stand, as chapter 4 says of matchers and of values.
func begun(told, s string) int {
	switch {
	case s[0] == '"' && goesOn(told+"Q"):
		_, _, at := attr.ParseMatch(`{a=` + s)
		return at - 3
	case s[0] == '{' && goesOn(told+"M"):
		_, _, at := attr.ParseMatch(s)
		return at
	}
	return 0
}

// mutated is a text with some bytes put in, taken out or turned into others.
func mutated(r *rand.Rand, s string) string {
	b := []byte(s)
	some := []string{"{", "}", "{}", "!=", "=", "!", "~", ",", "\"", "\"\"", "\\", "\n", "\xff", " ", "\t", "0", "1", "s", "ms", ".", "_", "a", "spans", " named ", " named \"x\"", " least ", " least 5ms ", " with ", " child ", " descendant", " limit ", " limit 5", " 1001", "$", "{a=\"x\"}"}
	for range 1 + r.Intn(2) {
		i := r.Intn(len(b) + 1)
		x := []byte(some[r.Intn(len(some))])
		switch r.Intn(3) {
		case 0:
			b = slices.Insert(b, i, x...)
		case 1:
			b = slices.Delete(b, i, min(len(b), i+1+r.Intn(2)))
		case 2:
			b = slices.Replace(b, i, min(len(b), i+1), x...)
		}
	}
	return string(b)
}

// P15.2: texts that are nearly queries, against the second way to find the place.
func TestParseByModel(t *testing.T) {
	r := rand.New(rand.NewSource(152))
	right := 0
	for range 50000 {
		s := mutated(r, spread(r, anyQuery(r)))
		want := modelPlace(s)
		q, e, at := Parse(s)
		if (e == api.ErrQuery) != (want >= 0) || at != max(want, 0) {
			t.Fatalf("Parse(%q) = %d, %d, want the place %d", s, e, at, want)
		}
		if e != api.OK {
			continue
		}
		right++
		if p, e := Print(q); e != api.OK || modelPlace(p) != -1 {
			t.Fatalf("%q is written %q, %d", s, p, e)
		}
	}
	if right < 5000 || right > 45000 {
		t.Errorf("%d texts are queries: the test tells little", right)
	}
}

// P1: texts of any bytes, and of words in any order, against the second way; queries of any fields.
func TestAnything(t *testing.T) {
	r := rand.New(rand.NewSource(151))
	signs := strings.Fields(`named least with child descendant limit "x" "" { } {} {a="1"} 5 5ms 0 , \ " x`)
	for i := range 20000 {
		b := make([]byte, r.Intn(20))
		r.Read(b)
		s := string(b)
		if i%4 > 0 {
			s = "spans "
			for range r.Intn(8) {
				s += signs[r.Intn(len(signs))] + "  "[:r.Intn(3)]
			}
		}
		want := modelPlace(s)
		if _, e, at := Parse(s); (e == api.ErrQuery) != (want >= 0) || at != max(want, 0) {
			t.Fatalf("Parse(%q) = %d, %d, want the place %d", s, e, at, want)
		}
		m := api.Matcher{Op: r.Intn(7) - 1, Key: s[:r.Intn(len(s)+1)], Value: s}
		test := api.SpanTest{Name: s, Least: int64(r.Uint64()) >> r.Intn(64), Match: many(r.Intn(10), m)}
		q := api.TraceQuery{First: test, Second: test, Has: r.Intn(5) - 1, Limit: r.Intn(1003) - 1}
		p, e := Print(q)
		if Right(q) != e || (p == "") != (e != api.OK) {
			t.Fatalf("Print(%v) = %q, %d", q, p, e)
		}
		Fits(test, api.Record{Kind: api.KSpan, Name: s, T: int64(r.Uint64()), To: int64(r.Uint64())})
	}
}

// Nothing that is handed in is changed, and no answers share memory.
func TestMemory(t *testing.T) {
	s := `spans {a="1", b="2"} with child {c="3", d="4"}`
	q, _, _ := Parse(s)
	as, _, _ := Parse(s)
	q.First.Match[0].Value, q.Second.Match[1].Value = "y", "y"
	_ = append(q.First.Match[:1], ma(1, "z", "z"))
	_ = append(q.First.Match, ma(1, "z", "z"), ma(1, "z", "z"))
	if again, _, _ := Parse(s); !Same(again, as) || Same(again, q) || q.Second.Match[0] != ma(1, "c", "3") {
		t.Error("an answer is seen in another one")
	}
	Right(as)
	Print(as)
	Fits(as.First, api.Record{Kind: api.KSpan})
	if again, _, _ := Parse(s); !Same(again, as) {
		t.Error("what is handed in is changed")
	}
}
