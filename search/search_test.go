package search

import (
	"math"
	"slices"
	"strconv"
	"strings"
	"testing"

	"belfry/api"
	"belfry/attr"
	"belfry/logq"
	"belfry/store"
	"belfry/traceq"
)

func set(t *testing.T, s string) []api.Attr {
	t.Helper()
	l, e, at := attr.Parse(s)
	if e != api.OK {
		t.Fatalf("attr.Parse(%q) = %d, %d", s, e, at)
	}
	return l
}

func match(t *testing.T, s string) []api.Matcher {
	t.Helper()
	l, e, at := attr.ParseMatch(s)
	if e != api.OK {
		t.Fatalf("attr.ParseMatch(%q) = %d, %d", s, e, at)
	}
	return l
}

func line(t *testing.T, text, attrs string, at int64) api.Record {
	t.Helper()
	return api.Record{Kind: api.KLine, Text: text, Attrs: set(t, attrs), T: at}
}

// span is one of trace 1 that ends at 99.
func span(t *testing.T, name, attrs string, at int64, id, parent byte) api.Record {
	t.Helper()
	return api.Record{Kind: api.KSpan, Name: name, Attrs: set(t, attrs), T: at, To: 99, Trace: [16]byte{1}, Id: [8]byte{id}, Parent: [8]byte{parent}}
}

func made(t *testing.T, l ...api.Record) *store.Store {
	t.Helper()
	s := store.New(api.MaxStore)
	for _, r := range l {
		if e := s.Put(r); e != api.OK {
			t.Fatalf("Put(%v) = %d", r, e)
		}
	}
	return s
}

func logQuery(t *testing.T, s string) api.LogQuery {
	t.Helper()
	q, e, at := logq.Parse(s)
	if e != api.OK {
		t.Fatalf("logq.Parse(%q) = %d, %d", s, e, at)
	}
	return q
}

func traceQuery(t *testing.T, s string) api.TraceQuery {
	t.Helper()
	q, e, at := traceq.Parse(s)
	if e != api.OK {
		t.Fatalf("traceq.Parse(%q) = %d, %d", s, e, at)
	}
	return q
}

// brief tells hits by their owners' names, times, and texts or names.
func brief(l []Hit) string {
	var out []string
	for _, h := range l {
		out = append(out, h.Owner+strconv.FormatInt(h.R.T, 10)+h.R.Text+h.R.Name)
	}
	return strings.Join(out, " ")
}

// P18.1, P18.3: the chapter's example, and that of the page.
func TestExamples(t *testing.T) {
	l := []Source{{Owner: "acme", Store: made(t, line(t, "a", "{}", 5), line(t, "b", "{}", 7))}}
	hits, n, e := Lines(l, logQuery(t, "{}"), 0, 9, 100)
	if e != api.OK || n != 2 || Text(hits) != "acme 7 0 \"b\" {}\nacme 5 0 \"a\" {}\n" {
		t.Errorf("Lines = %q, %d, %d", Text(hits), n, e)
	}
	one := []Source{{Owner: "acme", Store: made(t, line(t, "hi", "{}", 5))}}
	if hits, _, _ := Lines(one, api.LogQuery{}, 0, 9, 1); Text(hits) != "acme 5 0 \"hi\" {}\n" {
		t.Errorf("Lines = %q", Text(hits))
	}
}

// P18.1, P18.2: the errors, in order; with each all else is zero.
func TestErrors(t *testing.T) {
	s := []Source{{Store: made(t, line(t, "a", "{}", 5), line(t, "b", "{}", 6), span(t, "a", "{}", 5, 1, 0), span(t, "b", "{}", 5, 2, 1))}}
	wrongLog := map[api.Errno]api.LogQuery{
		api.ErrOp: {Match: []api.Matcher{{Op: 9, Key: "a"}}, Level: -1}, api.ErrKey: {Match: []api.Matcher{{Op: 1, Key: ""}}}, api.ErrFull: {Tests: make([]api.Matcher, 9)},
		api.ErrValue: {Tests: []api.Matcher{{Op: 3}}}, api.ErrArg: {Level: 25}, api.ErrSize: {Tests: slices.Repeat([]api.Matcher{{Op: 3, Value: strings.Repeat("x", 250)}}, 8)}}
	wrongTrace := map[api.Errno]api.TraceQuery{
		api.ErrOp: {First: api.SpanTest{Match: []api.Matcher{{Op: 9, Key: "a"}}}}, api.ErrValue: {First: api.SpanTest{Name: "\xff"}}, api.ErrForm: {Second: api.SpanTest{Name: "a"}},
		api.ErrArg: {Has: 3}, api.ErrFull: {First: api.SpanTest{Match: make([]api.Matcher, 9)}}, api.ErrKey: {Has: 1, Second: api.SpanTest{Match: []api.Matcher{{Op: 1}}}}}
	for _, c := range []struct {
		from, to int64
		budget   int
		want     api.Errno
	}{
		{0, 9, 1, api.ErrBudget}, {0, 9, 2, api.OK}, {5, 4, 1, api.ErrArg}, {5, 4, 100, api.ErrArg}, {math.MaxInt64, math.MinInt64, 100, api.ErrArg}, {0, -1, 100, api.ErrArg}, {5, 5, 100, api.OK}, {7, 9, 1, api.ErrBudget},
		{0, 9, 0, api.ErrArg}, {0, 9, -1, api.ErrArg}, {0, 9, math.MinInt, api.ErrArg}, {0, 9, math.MaxInt, api.ErrArg}, {0, 9, api.MaxSteps, api.OK}, {0, 9, api.MaxSteps + 1, api.ErrArg}, {math.MinInt64, math.MaxInt64, 2, api.OK}, {-9, -5, 2, api.OK},
	} {
		steps := 2
		if c.want != api.OK {
			steps = 0
		}
		if l, n, e := Lines(s, api.LogQuery{}, c.from, c.to, c.budget); e != c.want || n != steps || e != api.OK && l != nil {
			t.Errorf("Lines from %d to %d within %d = %v, %d, %d, want %d", c.from, c.to, c.budget, l, n, e, c.want)
		}
		if l, n, e := Spans(s, api.TraceQuery{}, c.from, c.to, c.budget); e != c.want || n != steps || e != api.OK && l != nil {
			t.Errorf("Spans from %d to %d within %d = %v, %d, %d, want %d", c.from, c.to, c.budget, l, n, e, c.want)
		}
		for want, q := range wrongLog {
			if l, n, e := Lines(s, q, c.from, c.to, c.budget); e != want || l != nil || n != 0 {
				t.Errorf("Lines(%v) = %v, %d, %d, want %d", q, l, n, e, want)
			}
		}
		for want, q := range wrongTrace {
			if l, n, e := Spans(s, q, c.from, c.to, c.budget); e != want || l != nil || n != 0 {
				t.Errorf("Spans(%v) = %v, %d, %d, want %d", q, l, n, e, want)
			}
		}
	}
}

// P18.1: lines of a time that fit, the latest first; of one time source by source, then as they came. Each line of a store takes a step.
func TestLines(t *testing.T) {
	a := made(t, line(t, "p", `{env="prod"}`, 5), line(t, "q", `{}`, 7), line(t, "r", `{env="prod"}`, 5), line(t, "s", `{}`, 6), span(t, "x", "{}", 6, 1, 0), api.Record{Kind: api.KPoint, Name: "up", T: 6})
	b := made(t, line(t, "t", `{env="test"}`, 7), line(t, "u", `{env="prod"}`, 5), line(t, "v", `{}`, 7))
	l := []Source{{Owner: "b", Store: b}, {Owner: "none"}, {Owner: "a", Store: a}, {Owner: "c", Store: b, View: api.View{Owner: "else", Scope: match(t, `{env!=""}`)}}}
	for _, c := range []struct {
		q        string
		from, to int64
		want     string
	}{
		{"{}", 0, 9, "b7t b7v a7q c7t a6s b5u a5p a5r c5u"},
		{"{}", 5, 7, "b7t b7v a7q c7t a6s b5u a5p a5r c5u"},
		{"{}", 6, 7, "b7t b7v a7q c7t a6s"}, {"{}", 6, 6, "a6s"}, {"{}", 5, 5, "b5u a5p a5r c5u"}, {"{}", 8, 9, ""}, {"{}", 0, 4, ""}, {"{}", math.MinInt64, 5, "b5u a5p a5r c5u"}, {"{}", 7, math.MaxInt64, "b7t b7v a7q c7t"},
		{`{env="prod"}`, 0, 9, "b5u a5p a5r c5u"}, {`{env=""}`, 0, 9, "b7v a7q a6s"}, {`{} |= "q"`, 0, 9, "a7q"}, {`{} != "q"`, 7, 9, "b7t b7v c7t"}, {`{} | level 1`, 0, 9, ""},
		{"{} | limit 1", 0, 9, "b7t"}, {"{} | limit 4", 0, 9, "b7t b7v a7q c7t"}, {"{} | limit 5", 0, 9, "b7t b7v a7q c7t a6s"}, {"{} | limit 9", 0, 9, "b7t b7v a7q c7t a6s b5u a5p a5r c5u"}, {"{} | limit 1000", 0, 9, "b7t b7v a7q c7t a6s b5u a5p a5r c5u"}, {`{env="prod"} | limit 2`, 0, 9, "b5u a5p"},
	} {
		hits, n, e := Lines(l, logQuery(t, c.q), c.from, c.to, 10)
		if e != api.OK || n != 10 || brief(hits) != c.want {
			t.Errorf("%s from %d to %d = %s, %d, %d, want %s", c.q, c.from, c.to, brief(hits), n, e, c.want)
		}
		if _, _, e := Lines(l, logQuery(t, c.q), c.from, c.to, 9); e != api.ErrBudget {
			t.Errorf("%s within 9 steps: %d", c.q, e)
		}
	}
	if hits, n, e := Lines(nil, api.LogQuery{}, 0, 9, 1); e != api.OK || n != 0 || len(hits) != 0 {
		t.Errorf("Lines of no sources = %v, %d, %d", hits, n, e)
	}
}

// P18.1, P18.5: the scope is asked of what a store has, the query of what is shown; no hit has a hidden key.
func TestShown(t *testing.T) {
	s := made(t,
		line(t, "a", `{env="prod", user="ann"}`, 1), line(t, "b", `{env="test", user="bob"}`, 2), line(t, "c", `{env="prod"}`, 3),
		span(t, "d", `{env="prod", user="ann"}`, 1, 1, 0), span(t, "e", `{env="test", user="bob"}`, 2, 2, 1), span(t, "f", `{env="prod"}`, 3, 3, 1))
	for _, c := range []struct {
		scope, hidden, match string
		want                 string // the numbers of those that are found
		text                 string // the attributes of the last one
	}{
		{"{}", "", "{}", "3 2 1", `{env="prod", user="ann"}`}, {"{}", "user", "{}", "3 2 1", `{env="prod"}`}, {"{}", "user env none user", "{}", "3 2 1", `{}`},
		{`{user="ann"}`, "user", "{}", "1", `{env="prod"}`}, {`{user!="ann"}`, "user", "{}", "3 2", `{env="test"}`}, {`{env="prod"}`, "", `{user=""}`, "3", `{env="prod"}`}, {`{env="prod"}`, "user", `{user=""}`, "3 1", `{env="prod"}`},
		{"{}", "user", `{user="ann"}`, "", ""}, {"{}", "", `{user="ann"}`, "1", `{env="prod", user="ann"}`}, {`{env="prod", env="test"}`, "", "{}", "", ""}, {"{}", "env", `{env!="prod"}`, "3 2 1", `{user="ann"}`},
	} {
		l := []Source{{Store: s, View: api.View{Owner: "other", Scope: match(t, c.scope), Hidden: strings.Fields(c.hidden)}}}
		q := match(t, c.match)
		lines, n, e := Lines(l, api.LogQuery{Match: q}, 0, 9, 9)
		if text := strings.NewReplacer("a", "", "b", "", "c", "").Replace(brief(lines)); e != api.OK || n != 3 || text != c.want {
			t.Errorf("Lines(%v) of %v = %s, %d, %d, want %s", q, l[0].View, text, n, e, c.want)
		}
		spans, n, e := Spans(l, api.TraceQuery{First: api.SpanTest{Match: q}}, 0, 9, 9)
		if text := strings.NewReplacer("d", "", "e", "", "f", "").Replace(brief(spans)); e != api.OK || n != 3 || text != c.want {
			t.Errorf("Spans(%v) of %v = %s, %d, %d, want %s", q, l[0].View, text, n, e, c.want)
		}
		for _, hits := range [][]Hit{lines, spans} {
			if len(hits) > 0 && attr.Text(hits[len(hits)-1].R.Attrs) != c.text {
				t.Errorf("%v of %v: %s, want %s", q, l[0].View, attr.Text(hits[len(hits)-1].R.Attrs), c.text)
			}
		}
	}
	wrong := []Source{{Store: s, View: api.View{Scope: []api.Matcher{{Op: 9, Key: "env"}}}}}
	if hits, n, e := Lines(wrong, api.LogQuery{}, 0, 9, 9); e != api.OK || n != 3 || len(hits) != 0 {
		t.Errorf("a scope that can not be: %v, %d, %d", hits, n, e)
	}
}

// P18.2: spans of a time that pass the first test, and what stands under them the second; its steps.
func TestSpans(t *testing.T) {
	s := made(t,
		span(t, "GET", `{}`, 10, 1, 0), span(t, "auth", `{}`, 11, 2, 1), span(t, "query", `{k="1"}`, 12, 3, 2), span(t, "GET", `{}`, 20, 4, 0), span(t, "query", `{k="2"}`, 5, 5, 4), span(t, "query", `{}`, 30, 6, 0), line(t, "GET", "{}", 10))
	l := []Source{{Owner: "a", Store: s}}
	for _, c := range []struct {
		q        string
		from, to int64
		want     string
		steps    int
	}{
		{"spans", 0, 99, "a30query a20GET a12query a11auth a10GET a5query", 6}, {"spans", 10, 20, "a20GET a12query a11auth a10GET", 6}, {`spans named "GET"`, 0, 99, "a20GET a10GET", 6}, {`spans named "GET"`, 20, 20, "a20GET", 6}, {`spans least 80ns`, 0, 99, "a12query a11auth a10GET a5query", 6}, {`spans limit 2`, 0, 99, "a30query a20GET", 6}, {`spans {k!=""}`, 0, 99, "a12query a5query", 6},
		{`spans with child named "query"`, 0, 99, "a20GET a11auth", 6 + 6*6}, {`spans with descendant named "query"`, 0, 99, "a20GET a11auth a10GET", 6 + 6*6}, {`spans named "GET" with child named "query"`, 0, 99, "a20GET", 6 + 2*6}, {`spans named "GET" with descendant named "query"`, 0, 99, "a20GET a10GET", 6 + 2*6}, {`spans named "GET" with child named "auth"`, 0, 99, "a10GET", 18}, {`spans named "GET" with child`, 0, 99, "a20GET a10GET", 18},
		{`spans named "GET" with descendant named "query"`, 15, 25, "a20GET", 12}, {`spans named "GET" with descendant named "query"`, 20, 20, "a20GET", 12}, {`spans named "GET" with descendant named "query"`, 40, 99, "", 6}, {`spans named "query" with descendant`, 0, 99, "", 6 + 3*6}, {`spans named "none" with child`, 0, 99, "", 6},
		{`spans with descendant {k="1"}`, 0, 99, "a11auth a10GET", 42}, {`spans with child {k="1"}`, 0, 99, "a11auth", 42}, {`spans with descendant least 94ns`, 0, 99, "a20GET", 42}, {`spans with descendant named "query" limit 1`, 0, 99, "a20GET", 42}, {`spans with child named "GET"`, 0, 99, "", 42},
	} {
		hits, n, e := Spans(l, traceQuery(t, c.q), c.from, c.to, 50)
		if e != api.OK || n != c.steps || brief(hits) != c.want {
			t.Errorf("%s from %d to %d = %s, %d, %d, want %s, %d", c.q, c.from, c.to, brief(hits), n, e, c.want, c.steps)
		}
		if hits, n, e := Spans(l, traceQuery(t, c.q), c.from, c.to, c.steps-1); e != api.ErrBudget || n != 0 || hits != nil {
			t.Errorf("%s within %d steps = %s, %d, %d", c.q, c.steps-1, brief(hits), n, e)
		}
		if _, n, e := Spans(l, traceQuery(t, c.q), c.from, c.to, c.steps); e != api.OK || n != c.steps {
			t.Errorf("%s within %d steps = %d, %d", c.q, c.steps, n, e)
		}
	}
}

// P18.2: what stands under a span is asked of one source alone, among what it shows, as it shows it.
func TestSpansUnder(t *testing.T) {
	s := made(t, span(t, "GET", `{}`, 10, 1, 0), span(t, "auth", `{env="test", user="ann"}`, 11, 2, 1), span(t, "query", `{env="prod", user="bob"}`, 12, 3, 2))
	other := made(t, span(t, "GET", `{}`, 13, 9, 0), span(t, "query", `{}`, 14, 8, 1))
	l := func(scope, hidden string) []Source {
		return []Source{{Owner: "a", Store: s, View: api.View{Scope: match(t, scope), Hidden: strings.Fields(hidden)}}, {Owner: "b", Store: other}}
	}
	for _, c := range []struct {
		scope, hidden, q, want string
		steps                  int
	}{
		{"{}", "", `spans with descendant named "query"`, "a11auth a10GET", 5 + 3*3 + 2*2}, {"{}", "", `spans named "GET" with child named "query"`, "", 5 + 3 + 2}, {`{env!="test"}`, "", `spans with descendant named "query"`, "", 5 + 2*2 + 2*2}, {`{env!=""}`, "", `spans with descendant named "query"`, "a11auth", 5 + 2*2 + 2*2}, {`{env="none"}`, "", `spans with child`, "", 5 + 2*2},
		{"{}", "", `spans with descendant {user="bob"}`, "a11auth a10GET", 18}, {"{}", "user", `spans with descendant {user="bob"}`, "", 18}, {"{}", "user", `spans with descendant {user=""}`, "a11auth a10GET", 18}, {"{}", "user", `spans {user=""} with child {user=""}`, "a11auth a10GET", 18}, {"{}", "", `spans {user=""} with child {user=""}`, "", 5 + 3 + 2*2},
	} {
		hits, n, e := Spans(l(c.scope, c.hidden), traceQuery(t, c.q), 0, 99, 50)
		if e != api.OK || n != c.steps || brief(hits) != c.want {
			t.Errorf("%s of %s, hiding %s = %s, %d, %d, want %s, %d", c.q, c.scope, c.hidden, brief(hits), n, e, c.want, c.steps)
		}
	}
	circle := []Source{{Owner: "a", Store: made(t, span(t, "x", "{}", 1, 1, 2), span(t, "y", "{}", 2, 2, 1), span(t, "z", "{}", 3, 3, 3))}}
	if hits, n, e := Spans(circle, traceQuery(t, "spans with descendant"), 0, 9, 50); e != api.OK || n != 12 || brief(hits) != "a2y a1x" {
		t.Errorf("a circle = %s, %d, %d", brief(hits), n, e)
	}
	if hits, _, _ := Spans(circle, traceQuery(t, `spans named "x" with descendant named "x"`), 0, 9, 50); len(hits) != 0 {
		t.Error("a span stands under itself")
	}
}

// P18.1, P18.2: without a limit the answer has MaxLimit hits at most.
func TestMaxLimit(t *testing.T) {
	var l []api.Record
	for i := range 1500 {
		l = append(l, line(t, "", "{}", int64(i)), api.Record{Kind: api.KSpan, T: int64(i), To: int64(i), Id: [8]byte{byte(i), byte(i >> 8)}})
	}
	s := []Source{{Store: made(t, l...)}}
	for limit, want := range map[int]int{0: 1000, 1: 1, 999: 999, 1000: 1000} {
		lines, n, e := Lines(s, api.LogQuery{Limit: limit}, 0, 5000, 1500)
		if e != api.OK || n != 1500 || len(lines) != want || lines[0].R.T != 1499 || lines[want-1].R.T != int64(1500-want) {
			t.Errorf("limit %d: %d lines, %d, %d", limit, len(lines), n, e)
		}
		spans, n, e := Spans(s, api.TraceQuery{Limit: limit}, 0, 5000, 1500)
		if e != api.OK || n != 1500 || len(spans) != want || spans[0].R.T != 1499 || spans[want-1].R.T != int64(1500-want) {
			t.Errorf("limit %d: %d spans, %d, %d", limit, len(spans), n, e)
		}
	}
}

// P18.3: hits of all kinds as text.
func TestText(t *testing.T) {
	attrs := set(t, `{a="x\"y\n"}`)
	for _, c := range []struct {
		h    Hit
		want string
	}{
		{Hit{}, " 0 {}\n"},
		{Hit{"acme", api.Record{Kind: api.KLine, T: 5, Level: 9, Text: "a \"b\"\n\\", Attrs: attrs}}, "acme 5 9 \"a \\\"b\\\"\\n\\\\\" {a=\"x\\\"y\\n\"}\n"},
		{Hit{"acme", api.Record{Kind: api.KLine, T: math.MinInt64, Level: -3, Name: "no", To: 4}}, "acme -9223372036854775808 -3 \"\" {}\n"},
		{Hit{"acme", api.Record{Kind: api.KSpan, T: 5, To: 9, Name: "GET \"x\"", Attrs: attrs, Text: "no", Id: [8]byte{0x01, 0xab, 0, 0xff, 0x10, 0xcd, 0xef, 0x09}}}, "acme 5 9 \"GET \\\"x\\\"\" 01ab00ff10cdef09 {a=\"x\\\"y\\n\"}\n"},
		{Hit{"", api.Record{Kind: api.KSpan, T: -1, To: math.MaxInt64}}, " -1 9223372036854775807 \"\" 0000000000000000 {}\n"},
		{Hit{"a b", api.Record{Kind: api.KPoint, T: 5, V: 7, Name: "up", Attrs: attrs}}, "a b 5 {a=\"x\\\"y\\n\"}\n"},
		{Hit{"acme", api.Record{Kind: 9, T: 5, To: 6, Level: 7, Text: "x"}}, "acme 5 {}\n"},
	} {
		if got := Text([]Hit{c.h}); got != c.want {
			t.Errorf("Text(%v) = %q, want %q", c.h, got, c.want)
		}
		if got := Text([]Hit{c.h, c.h}); got != c.want+c.want {
			t.Errorf("Text of two = %q, want %q twice", got, c.want)
		}
	}
	if Text(nil) != "" || Text([]Hit{}) != "" {
		t.Error("Text of none")
	}
}

// Rule 4, rule 5: nothing that is handed in is changed; what is answered is the caller's own.
func TestMemory(t *testing.T) {
	s := made(t, line(t, "a", `{env="prod", user="ann"}`, 1), span(t, "d", `{env="prod", user="ann"}`, 1, 1, 0), span(t, "e", `{env="prod", user="bob"}`, 2, 2, 1))
	before := s.Copy()
	for _, hidden := range [][]string{nil, {"user"}} {
		one := Source{Owner: "acme", Store: s, View: api.View{Scope: match(t, `{env="prod"}`), Hidden: hidden}}
		l := []Source{one, one}
		ask := func() [][]Hit {
			lines, _, _ := Lines(l, api.LogQuery{}, 0, 9, 99)
			spans, _, _ := Spans(l, traceQuery(t, "spans"), 0, 9, 99)
			under, _, _ := Spans(l, traceQuery(t, "spans with child"), 0, 9, 99)
			trace, _ := Trace(l, [16]byte{1})
			return [][]Hit{lines, spans, under, trace}
		}
		first := ask()
		var texts []string
		for _, hits := range first {
			texts = append(texts, Text(hits))
			spoilEach(t, hits)
		}
		for i, hits := range ask() {
			if Text(hits) != texts[i] || texts[i] == "" {
				t.Errorf("%q, and once more %q", texts[i], Text(hits))
			}
		}
	}
	if !s.Same(before) {
		t.Error("the store is changed")
	}
}

// spoilEach writes into hits one by one, and holds the others to staying as they are.
func spoilEach(t *testing.T, l []Hit) {
	t.Helper()
	_ = append(l, Hit{})
	for i := range l {
		others := Text(slices.Concat(l[:i], l[i+1:]))
		_ = append(l[i].R.Attrs, api.Attr{Key: "more"})
		for j := range l[i].R.Attrs {
			l[i].R.Attrs[j] = api.Attr{Key: "spoilt"}
		}
		if Text(slices.Concat(l[:i], l[i+1:])) != others {
			t.Error("hits share memory")
		}
	}
}
