package rewrite

import (
	"math"
	"reflect"
	"slices"
	"strings"
	"testing"

	"belfry/api"
	"belfry/attr"
	"belfry/logq"
	"belfry/metricq"
	"belfry/traceq"
)

func ma(op int, key, value string) api.Matcher {
	return api.Matcher{Op: op, Key: key, Value: value}
}

// scope is matchers by their text.
func scope(t *testing.T, s string) []api.Matcher {
	t.Helper()
	l, e, _ := attr.ParseMatch(s)
	if e != api.OK {
		t.Fatalf("ParseMatch(%s) = %d", s, e)
	}
	return l
}

func plan(t *testing.T, kind int, s string) Plan {
	t.Helper()
	p, e, at := Read(kind, s)
	if e != api.OK || at != 0 {
		t.Fatalf("Read(%d, %q) = %d, %d", kind, s, e, at)
	}
	return p
}

// put puts a plan's query into a view by the call of its kind, and tells the text of what comes of it.
func put(p Plan, v api.View) (string, api.Errno) {
	var e api.Errno
	in := Plan{Kind: p.Kind}
	switch p.Kind {
	case api.KPoint:
		in.Metric, e = Metric(p.Metric, v)
	case api.KLine:
		in.Log, e = Log(p.Log, v)
	case api.KSpan:
		in.Trace, e = Trace(p.Trace, v)
	}
	if e != api.OK {
		if !zero(Plan{Metric: in.Metric, Log: in.Log, Trace: in.Trace}) {
			return "beside an error stands a query", e
		}
		return "", e
	}
	s, e := Text(in)
	if e != api.OK {
		return "what comes of it is no query", e
	}
	return s, api.OK
}

func zero(p Plan) bool {
	return p.Kind == 0 && reflect.DeepEqual(p.View, api.View{}) && len(p.Metric) == 0 && logq.Same(p.Log, api.LogQuery{}) && traceq.Same(p.Trace, api.TraceQuery{})
}

// Example 1 of the chapter.
func TestExample(t *testing.T) {
	v := api.View{Scope: scope(t, `{team="a"}`), Hidden: []string{"user"}}
	if s, e := put(plan(t, api.KLine, `{env="prod"} |= "x"`), v); s != `{env="prod", team="a"} |= "x"` || e != api.OK {
		t.Errorf("Log = %s, %d", s, e)
	}
	if s, e := put(plan(t, api.KLine, `{} | user="ann"`), v); s != "" || e != api.ErrDenied {
		t.Errorf("Log = %s, %d", s, e)
	}
}

// P16.1: the scope is put to the matchers of each select, of Match, of both tests' Match, in the order of matchers and none twice.
func TestWithin(t *testing.T) {
	for _, c := range []struct {
		kind           int
		s, scope, want string
	}{
		{api.KPoint, `up`, `{a="1"}`, `up{a="1"}`},
		{api.KPoint, `up`, `{}`, `up`},
		{api.KPoint, `1 + 2`, `{a="1"}`, `1 + 2`},
		{api.KPoint, `up{b="2", a="1"}`, `{}`, `up{a="1", b="2"}`},
		{api.KPoint, `up{b="2"}`, `{c="3", a!="1", b="2"}`, `up{a!="1", b="2", c="3"}`},
		{api.KPoint, `sum by (env) (rate(up{b="2"}[5m])) / (-"down x" * 2)`, `{a=~"1"}`, `sum by (env) (rate(up{a=~"1", b="2"}[5m])) / (-"down x"{a=~"1"} * 2)`},
		{api.KLine, `{}`, `{a="1"}`, `{a="1"}`},
		{api.KLine, `{b="2", a="1", b="2"}`, `{}`, `{a="1", b="2"}`},
		{api.KLine, `{b="2"} | level 3 |= "x" | b!="3" != "y" | limit 4`, `{b="2", a!~"1"}`, `{a!~"1", b="2"} | level 3 |= "x" | b!="3" != "y" | limit 4`},
		{api.KSpan, `spans`, `{a="1"}`, `spans {a="1"}`},
		{api.KSpan, `spans named "x" least 5ms {b="2"} limit 3`, `{a="1", b!="2"}`, `spans named "x" least 5ms {a="1", b="2", b!="2"} limit 3`},
		{api.KSpan, `spans with child`, `{a="1"}`, `spans {a="1"} with child {a="1"}`},
		{api.KSpan, `spans {c="3"} with descendant named "y" {b="2"} limit 5`, `{a="1"}`, `spans {a="1", c="3"} with descendant named "y" {a="1", b="2"} limit 5`},
		{api.KSpan, `spans {b="2", a="1"} with child {d="2", c="1"}`, `{}`, `spans {a="1", b="2"} with child {c="1", d="2"}`},
	} {
		if s, e := put(plan(t, c.kind, c.s), api.View{Owner: "acme", Scope: scope(t, c.scope), Hidden: []string{"", "x", "hidden", "x"}}); s != c.want || e != api.OK {
			t.Errorf("%s within %s = %s, %d, want %s", c.s, c.scope, s, e, c.want)
		}
	}
}

// P16.1: a query that names a hidden key, anywhere, is not shown.
func TestDenied(t *testing.T) {
	for _, c := range []struct {
		kind int
		s    string
	}{
		{api.KPoint, `up{user="x"}`}, {api.KPoint, `sum by (a, user) (up)`}, {api.KPoint, `up + (up - rate(up{a="1", user!="x"}[5m]))`}, {api.KPoint, `max(sum by (user) (up{a="1"}))`},
		{api.KLine, `{user=""}`}, {api.KLine, `{a="1", user!~"x"} |= "user"`}, {api.KLine, `{} | a="1" | user=~""`},
		{api.KSpan, `spans {user="x"}`}, {api.KSpan, `spans {a="1", user="x"} with child`}, {api.KSpan, `spans with descendant {user!="x"}`},
	} {
		p := plan(t, c.kind, c.s)
		for _, hidden := range [][]string{{"user"}, {"a", "user"}, {"z", "user", "user"}} {
			if s, e := put(p, api.View{Hidden: hidden}); s != "" || e != api.ErrDenied {
				t.Errorf("%s hiding %v = %s, %d", c.s, hidden, s, e)
			}
		}
		if _, e := put(p, api.View{Hidden: []string{"use", "users", "User", "user.", "z", ""}}); e != api.OK {
			t.Errorf("%s hiding others = %d", c.s, e)
		}
	}
	for _, p := range []Plan{plan(t, api.KPoint, `user * sum("user")`), plan(t, api.KLine, `{a="user"} |= "user"`), plan(t, api.KSpan, `spans named "user" {a="user"}`)} {
		if _, e := put(p, api.View{Hidden: []string{"user", ""}}); e != api.OK {
			t.Errorf("%v names no hidden key, but = %d", p, e)
		}
	}
}

// P16.1: the errors, in order: the query's own; ErrDenied; those of matchers and scope together; what comes of it.
func TestErrors(t *testing.T) {
	nine := slices.Repeat([]api.Matcher{ma(0, "", "\xff")}, 9)
	wrong := api.View{Scope: nine, Hidden: []string{"a"}}
	for _, p := range []struct {
		p Plan
		e api.Errno
	}{
		{Plan{Kind: api.KPoint}, api.ErrQuery}, {Plan{Kind: api.KPoint, Metric: []api.Node{{Kind: api.NSelect, Name: "up", Match: nine, By: []string{"a"}}}}, api.ErrQuery}, {Plan{Kind: api.KPoint, Metric: []api.Node{{Kind: 9, By: []string{"a"}}}}, api.ErrQuery},
		{Plan{Kind: api.KLine, Log: api.LogQuery{Match: nine}}, api.ErrFull}, {Plan{Kind: api.KLine, Log: api.LogQuery{Match: []api.Matcher{ma(1, "a", "")}, Level: 25}}, api.ErrArg}, {Plan{Kind: api.KLine, Log: api.LogQuery{Tests: []api.Matcher{ma(1, "a", "\xff")}}}, api.ErrValue},
		{Plan{Kind: api.KSpan, Trace: api.TraceQuery{First: api.SpanTest{Match: []api.Matcher{ma(1, "a", "")}, Least: -1}}}, api.ErrArg}, {Plan{Kind: api.KSpan, Trace: api.TraceQuery{Second: api.SpanTest{Match: []api.Matcher{ma(1, "a", "")}}}}, api.ErrForm}, {Plan{Kind: api.KSpan, Trace: api.TraceQuery{First: api.SpanTest{Match: []api.Matcher{ma(5, "a", "")}}}}, api.ErrOp},
	} {
		if s, e := put(p.p, wrong); s != "" || e != p.e {
			t.Errorf("%v = %s, %d, want %d", p.p, s, e, p.e)
		}
	}
	for _, p := range []Plan{plan(t, api.KPoint, `up{a="1"}`), plan(t, api.KLine, `{a="1"}`), plan(t, api.KSpan, `spans {a="1"}`)} {
		for _, c := range []struct {
			scope []api.Matcher
			e     api.Errno
		}{
			{nine[:1], api.ErrOp}, {slices.Repeat([]api.Matcher{ma(1, "b", "1")}, 9), api.OK}, {numbered(8), api.ErrFull}, {append(numbered(7), ma(0, "b", "")), api.ErrFull}, {numbered(7), api.OK}, {append(numbered(7), ma(1, "a", "1")), api.OK},
			{[]api.Matcher{ma(1, "", "1"), ma(0, "b", "")}, api.ErrKey}, {[]api.Matcher{ma(4, "b", "\xff"), ma(1, "", "")}, api.ErrValue}, {[]api.Matcher{ma(5, "", "\xff")}, api.ErrOp},
		} {
			if s, e := put(p, api.View{Scope: c.scope, Hidden: []string{"b"}}); (s == "") != (e != api.OK) || e != c.e {
				t.Errorf("%v within %v = %s, %d, want %d", p, c.scope, s, e, c.e)
			}
			if s, e := put(p, api.View{Scope: c.scope, Hidden: []string{"a"}}); s != "" || e != api.ErrDenied {
				t.Errorf("%v within %v = %s, %d, want %d", p, c.scope, s, e, api.ErrDenied)
			}
		}
	}
}

// numbered are matchers of which no two are the same.
func numbered(n int) []api.Matcher {
	var l []api.Matcher
	for i := range n {
		l = append(l, ma(1, "n", string(rune('a'+i))))
	}
	return l
}

// P16.1: of metrics select by select, of spans First, then Second, and this one only if it is asked for.
func TestErrorsPartByPart(t *testing.T) {
	for _, c := range []struct {
		kind int
		s    string
		e    api.Errno
	}{
		{api.KPoint, `up + up{a="1"}`, api.ErrFull}, {api.KPoint, `up{a="1"} + up`, api.ErrFull}, {api.KPoint, `up + up`, api.OK}, {api.KPoint, `5`, api.OK},
		{api.KSpan, `spans {a="1"} with child`, api.ErrFull}, {api.KSpan, `spans with child {a="1"}`, api.ErrFull}, {api.KSpan, `spans with child`, api.OK}, {api.KSpan, `spans`, api.OK},
	} {
		if _, e := put(plan(t, c.kind, c.s), api.View{Scope: numbered(8)}); e != c.e {
			t.Errorf("%s = %d, want %d", c.s, e, c.e)
		}
	}
	wrong := api.View{Scope: append(numbered(7), ma(1, "1", ""))}
	for _, c := range []struct {
		kind int
		s    string
		e    api.Errno
	}{
		{api.KPoint, `up + up{a="1"}`, api.ErrKey}, {api.KPoint, `up{a="1"} + up`, api.ErrFull}, {api.KPoint, `5`, api.OK},
		{api.KSpan, `spans with child {a="1"}`, api.ErrKey}, {api.KSpan, `spans {a="1"} with child`, api.ErrFull},
	} {
		if _, e := put(plan(t, c.kind, c.s), wrong); e != c.e {
			t.Errorf("%s = %d, want %d", c.s, e, c.e)
		}
	}
}

// P16.1: a text that grows beyond MaxLine bytes.
func TestTooLong(t *testing.T) {
	wide := api.View{Scope: []api.Matcher{ma(1, "k", strings.Repeat("v", 256)), ma(2, "k", strings.Repeat("v", 256))}}
	fill := strings.Repeat("f", 250)
	for _, c := range []struct {
		kind int
		s    string
		e    api.Errno
	}{
		{api.KPoint, `NAME * 2`, api.ErrQuery}, {api.KLine, `{a="` + fill + `"} |= "NAME" | limit 5`, api.ErrSize}, {api.KSpan, `spans named "NAME" least 5s {a="` + fill + `"} limit 5`, api.ErrSize},
	} {
		within := func(n int) (string, api.Errno) {
			return put(plan(t, c.kind, strings.Replace(c.s, "NAME", strings.Repeat("n", n), 1)), wide)
		}
		s, _ := within(1)
		room := api.MaxLine - len(s)
		if s, e := within(1 + room); e != api.OK || len(s) != api.MaxLine {
			t.Errorf("%s of %d bytes = %d", c.s, len(s), e)
		}
		if s, e := within(2 + room); e != c.e || s != "" {
			t.Errorf("%s with a byte more = %d", c.s, e)
		}
	}
	four := api.View{Scope: append(slices.Clone(wide.Scope), ma(3, "k", strings.Repeat("v", 256)), ma(4, "k", strings.Repeat("v", 256)))}
	for _, c := range []struct {
		p Plan
		e api.Errno
	}{
		{plan(t, api.KPoint, `up`), api.ErrQuery}, {plan(t, api.KLine, `{}`), api.ErrSize}, {plan(t, api.KSpan, `spans`), api.ErrSize}, {plan(t, api.KPoint, `1`), api.OK},
	} {
		if _, e := put(c.p, four); e != c.e {
			t.Errorf("%v = %d, want %d", c.p, e, c.e)
		}
	}
	if _, e := put(plan(t, api.KPoint, `up + up`), wide); e != api.ErrQuery {
		t.Errorf("two selects = %d", e)
	}
	if _, e := put(plan(t, api.KSpan, `spans with child`), wide); e != api.ErrSize {
		t.Errorf("two tests = %d", e)
	}
}

// P16.2: the keys that a query names, rising, none twice.
func TestNames(t *testing.T) {
	for _, c := range []struct {
		kind int
		s    string
		want []string
	}{
		{api.KPoint, `5`, nil}, {api.KPoint, `up`, nil}, {api.KPoint, `up{b="1", a="2", b!="3"}`, []string{"a", "b"}}, {api.KPoint, `sum by (z, c) (up{b="1"} / rate(x{a="1", z=""}[5m]))`, []string{"a", "b", "c", "z"}},
		{api.KLine, `{}`, nil}, {api.KLine, `{} |= "x" != "y"`, nil}, {api.KLine, `{b="1"} |= "x" | c="1" | a!~"2" | b=""`, []string{"a", "b", "c"}}, {api.KLine, `{} | level 5 | level="5" | limit 5`, []string{"level"}}, {api.KLine, `{Z="", _=""} | a.b="" | a=""`, []string{"Z", "_", "a", "a.b"}},
		{api.KSpan, `spans`, nil}, {api.KSpan, `spans named "x" least 5s with child named "y"`, nil}, {api.KSpan, `spans {c="1", b="1"} with descendant {b!="2", a="1"}`, []string{"a", "b", "c"}}, {api.KSpan, `spans with child {a="1"}`, []string{"a"}},
	} {
		p := plan(t, c.kind, c.s)
		if got := Names(p); !slices.Equal(got, c.want) {
			t.Errorf("Names of %s = %q, want %q", c.s, got, c.want)
		}
		for _, kind := range []int{0, 4, -1, math.MinInt, math.MaxInt} {
			if p.Kind = kind; len(Names(p)) != 0 {
				t.Errorf("a query of the kind %d names something", kind)
			}
		}
	}
}

// P16.2: a query names what stands in its own kind's part; wrong ones by the same words.
func TestNamesOfKind(t *testing.T) {
	x := []api.Matcher{ma(0, "x", "\xff"), ma(9, "", "")}
	p := Plan{Metric: []api.Node{{Kind: api.NAgg, By: []string{"m"}, Match: x}, {Kind: api.NSelect, Match: []api.Matcher{ma(1, "n", "")}}, {Kind: 99, By: []string{"l", "m"}, Match: x}}, Log: api.LogQuery{Match: x, Tests: []api.Matcher{ma(1, "t", ""), ma(3, "", "v")}}, Trace: api.TraceQuery{First: api.SpanTest{Match: []api.Matcher{ma(1, "s", "")}}, Second: api.SpanTest{Match: []api.Matcher{ma(1, "r", "")}}}}
	for kind, want := range map[int][]string{api.KPoint: {"l", "m", "n"}, api.KLine: {"t", "x"}, api.KSpan: {"r", "s"}, 0: nil} {
		if p.Kind = kind; !slices.Equal(Names(p), want) {
			t.Errorf("Names of the kind %d = %q", kind, Names(p))
		}
	}
}

// P16.2: Read is the answer of the kind's Parse; Text of its Print.
func TestReadText(t *testing.T) {
	for _, c := range []struct {
		kind int
		s    string
		e    api.Errno
		at   int
	}{
		{api.KPoint, `sum by (a) (up{b="1"}) * 2`, api.OK, 0}, {api.KPoint, `up +`, api.ErrQuery, 4}, {api.KPoint, `1.`, api.ErrToken, 0}, {api.KPoint, "", api.ErrQuery, 0}, {api.KPoint, strings.Repeat("(", 17) + "1", api.ErrDeep, 16}, {api.KPoint, strings.Repeat("x", 1025), api.ErrSize, 0}, {api.KPoint, `{}`, api.ErrQuery, 0},
		{api.KLine, `{a="1"} | level 3 |= "x" | limit 5`, api.OK, 0}, {api.KLine, `{} |`, api.ErrQuery, 4}, {api.KLine, `{} |= ""`, api.ErrValue, 0}, {api.KLine, `up`, api.ErrQuery, 0}, {api.KLine, strings.Repeat("x", 1025), api.ErrSize, 0},
		{api.KSpan, `spans named "x" {a="1"} with child limit 5`, api.OK, 0}, {api.KSpan, `spans with`, api.ErrQuery, 10}, {api.KSpan, "spans named \"\xff\"", api.ErrValue, 0}, {api.KSpan, `{}`, api.ErrQuery, 0}, {api.KSpan, strings.Repeat("x", 1025), api.ErrSize, 0},
		{0, `up`, api.ErrArg, 0}, {4, `{}`, api.ErrArg, 0}, {-1, `spans`, api.ErrArg, 0}, {math.MinInt, ``, api.ErrArg, 0}, {math.MaxInt, strings.Repeat("x", 1025), api.ErrArg, 0},
	} {
		p, e, at := Read(c.kind, c.s)
		if e != c.e || at != c.at || e != api.OK && !zero(p) {
			t.Errorf("Read(%d, %q) = %v, %d, %d, want %d, %d", c.kind, c.s, p, e, at, c.e, c.at)
		}
		if e != api.OK {
			continue
		}
		if p.Kind != c.kind || !reflect.DeepEqual(p.View, api.View{}) || (len(p.Metric) > 0) != (c.kind == api.KPoint) || (p.Log.Limit > 0) != (c.kind == api.KLine) || (p.Trace.Limit > 0) != (c.kind == api.KSpan) {
			t.Errorf("Read(%d, %q) = %v", c.kind, c.s, p)
		}
		if s, e := Text(p); s != c.s || e != api.OK {
			t.Errorf("Text of %q = %q, %d", c.s, s, e)
		}
	}
}

// P16.2: Text's errors: of the kind, then those of Print.
func TestTextErrors(t *testing.T) {
	wrong := Plan{Metric: []api.Node{{Kind: api.NNumber, V: -1}}, Log: api.LogQuery{Level: 25}, Trace: api.TraceQuery{Second: api.SpanTest{Name: "x"}}}
	for kind, want := range map[int]api.Errno{api.KPoint: api.ErrQuery, api.KLine: api.ErrArg, api.KSpan: api.ErrForm, 0: api.ErrArg, 4: api.ErrArg, -1: api.ErrArg, math.MaxInt: api.ErrArg, math.MinInt: api.ErrArg} {
		p := wrong
		p.Kind = kind
		if s, e := Text(p); s != "" || e != want {
			t.Errorf("Text of the kind %d = %q, %d, want %d", kind, s, e, want)
		}
		if l, e := Plans(p, []api.View{{}}); len(l) != 0 || e != want {
			t.Errorf("Plans of the kind %d = %v, %d, want %d", kind, l, e, want)
		}
	}
	other := wrong // what is wrong in the part of another kind plays no part
	other.Kind, other.Log = api.KLine, api.LogQuery{}
	if s, e := Text(other); s != "{}" || e != api.OK {
		t.Errorf("Text = %q, %d", s, e)
	}
}

// P16.3: of each view a plan, in order; those that do not show the query, or are too much for it, are passed over.
func TestPlans(t *testing.T) {
	views := []api.View{
		{Owner: "a"}, {Owner: "b", Scope: scope(t, `{team="b"}`), Hidden: []string{"x", "y"}}, {Owner: "c", Hidden: []string{"k"}}, {Owner: "d", Scope: numbered(8)}, {Owner: "e", Scope: []api.Matcher{ma(1, "l", strings.Repeat("v", 256)), ma(2, "l", strings.Repeat("v", 256)), ma(3, "l", strings.Repeat("v", 256)), ma(4, "l", strings.Repeat("v", 256))}}, {Owner: "b", Scope: scope(t, `{team="z"}`)}, {Owner: "f", Scope: []api.Matcher{ma(1, "1", "")}}, {Owner: "a"},
	}
	for _, c := range []struct {
		kind int
		s    string
		want []string
	}{
		{api.KPoint, `sum by (z) (up{k="1"})`, []string{`sum by (z) (up{k="1"})`, `sum by (z) (up{k="1", team="b"})`, `sum by (z) (up{k="1", team="z"})`, `sum by (z) (up{k="1"})`}},
		{api.KLine, `{k="1"} |= "x"`, []string{`{k="1"} |= "x"`, `{k="1", team="b"} |= "x"`, `{k="1", team="z"} |= "x"`, `{k="1"} |= "x"`}},
		{api.KSpan, `spans with child {k="1"}`, []string{`spans with child {k="1"}`, `spans {team="b"} with child {k="1", team="b"}`, `spans {team="z"} with child {k="1", team="z"}`, `spans with child {k="1"}`}},
	} {
		p := plan(t, c.kind, c.s)
		p.View = views[1] // its own view plays no part
		l, e := Plans(p, views)
		if e != api.OK || len(l) != len(c.want) {
			t.Errorf("Plans of %s = %v, %d", c.s, l, e)
			continue
		}
		for i, from := range []int{0, 1, 5, 7} {
			if s, _ := Text(l[i]); s != c.want[i] || !reflect.DeepEqual(l[i].View, views[from]) || l[i].Kind != c.kind {
				t.Errorf("the plan %d of %s is %s, %v", i, c.s, s, l[i].View)
			}
		}
		for _, v := range [][]api.View{nil, {}, views[2:3], views[2:5], views[6:7]} {
			if l, e := Plans(p, v); len(l) != 0 || e != api.ErrDenied {
				t.Errorf("Plans of %s with %v = %v, %d", c.s, v, l, e)
			}
		}
	}
	p := plan(t, api.KLine, `{}`) // what a plan has beside its kind's query is not handed on
	p.Metric, p.Trace.Limit = plan(t, api.KPoint, `up`).Metric, 5
	if l, e := Plans(p, views[:1]); e != api.OK || len(l) != 1 || len(l[0].Metric) != 0 || l[0].Trace.Limit != 0 {
		t.Errorf("Plans = %v, %d", l, e)
	}
}

// P16.3: the key of plans.
func TestKey(t *testing.T) {
	up := plan(t, api.KPoint, `up + 1`)
	up.View = api.View{Owner: "acme", Hidden: []string{"user", "b", "a"}, Scope: scope(t, `{a="1"}`)}
	log := plan(t, api.KLine, `{a="x\ny"} |= "z"`)
	log.View.Owner = "globex"
	spans := plan(t, api.KSpan, `spans with child`)
	spans.View.Hidden = []string{"k"}
	for _, c := range []struct {
		l    []Plan
		want string
	}{
		{nil, ""}, {[]Plan{}, ""}, {[]Plan{up}, "acme up + 1 hide user,b,a\n"}, {[]Plan{log}, "globex {a=\"x\\ny\"} |= \"z\"\n"}, {[]Plan{spans}, " spans with child hide k\n"},
		{[]Plan{log, up, spans, log}, "globex {a=\"x\\ny\"} |= \"z\"\nacme up + 1 hide user,b,a\n spans with child hide k\nglobex {a=\"x\\ny\"} |= \"z\"\n"},
	} {
		if s, e := Key(c.l); s != c.want || e != api.OK {
			t.Errorf("Key = %q, %d, want %q", s, e, c.want)
		}
	}
	wrong := Plan{Kind: api.KSpan, Trace: api.TraceQuery{Second: api.SpanTest{Name: "x"}}}
	for _, c := range []struct {
		l []Plan
		e api.Errno
	}{
		{[]Plan{{}}, api.ErrArg}, {[]Plan{up, wrong, {}}, api.ErrForm}, {[]Plan{up, {}, wrong}, api.ErrArg}, {[]Plan{{Kind: api.KPoint}, wrong}, api.ErrQuery}, {[]Plan{log, {Kind: 4}}, api.ErrArg},
	} {
		if s, e := Key(c.l); s != "" || e != c.e {
			t.Errorf("Key = %q, %d, want %d", s, e, c.e)
		}
	}
}

// P16.3: a record as a view shows it: without the hidden keys, and with all else as it is.
func TestProject(t *testing.T) {
	r := api.Record{Kind: api.KSpan, Name: "n", Attrs: []api.Attr{{Key: "b", Value: "1"}, {Key: "a", Value: "2"}, {Key: "b", Value: "3"}, {Key: "", Value: "\xff"}}, T: 1, To: 2, V: 3, Level: 4, Text: "t", Trace: [16]byte{5}, Id: [8]byte{6}, Parent: [8]byte{7}}
	for _, c := range []struct {
		hidden []string
		want   []api.Attr
	}{
		{nil, r.Attrs}, {[]string{"c"}, r.Attrs}, {[]string{"b"}, []api.Attr{r.Attrs[1], r.Attrs[3]}}, {[]string{"a", "a", "z"}, []api.Attr{r.Attrs[0], r.Attrs[2], r.Attrs[3]}}, {[]string{""}, r.Attrs[:3]}, {[]string{"b", "", "a"}, nil},
	} {
		got := Project(api.View{Owner: "x", Scope: []api.Matcher{ma(1, "no", "no")}, Hidden: c.hidden}, r)
		want := r
		want.Attrs = got.Attrs
		if !slices.Equal(got.Attrs, c.want) || !reflect.DeepEqual(got, want) {
			t.Errorf("hiding %q it shows %v", c.hidden, got)
		}
	}
	if got := Project(api.View{}, api.Record{}); len(got.Attrs) != 0 {
		t.Errorf("it shows %v", got)
	}
}

// Nothing that is handed in is changed or kept, and no answers share memory.
func TestMemory(t *testing.T) {
	for _, p := range []Plan{plan(t, api.KPoint, `sum by (z, y) (up{b="1", a="2"}) + up`), plan(t, api.KLine, `{b="1", a="2"} |= "x" | c="3"`), plan(t, api.KSpan, `spans {b="1", a="2"} with child {d="1", c="2"}`)} {
		views := []api.View{{Owner: "o", Scope: scope(t, `{t="1", s="2"}`), Hidden: []string{"h", "g"}}, {Scope: scope(t, `{t="1", s="2"}`)}}
		text, _ := Text(p)
		l, e := Plans(p, views)
		again, _ := Plans(p, views)
		want, _ := Key(l)
		if e != api.OK || len(l) != 2 {
			t.Fatalf("Plans = %v, %d", l, e)
		}
		scribble(again[0])
		if k, _ := Key(l); k != want || !reflect.DeepEqual(l[0].View, views[0]) || !reflect.DeepEqual(l[1].View, views[1]) {
			t.Error("a plan is seen in another one")
		}
		scribble(l[0])
		if k, _ := Key(l[1:]); !strings.HasSuffix(want, "\n"+k) || l[1].View.Scope[0] != ma(1, "t", "1") {
			t.Error("a plan is seen in its neighbour")
		}
		if s, _ := Text(p); s != text || views[0].Hidden[0] != "h" || views[0].Scope[0] != ma(1, "t", "1") {
			t.Error("what is handed in is changed")
		}
		l, _ = Plans(p, views)
		scribble(Plan{View: views[0]})
		scribble(p)
		if k, _ := Key(l); k != want || l[0].View.Scope[0] != ma(1, "t", "1") {
			t.Error("what is handed in is kept")
		}
	}
	r := api.Record{Attrs: []api.Attr{{Key: "a", Value: "1"}, {Key: "b", Value: "2"}}}
	a, b := Project(api.View{}, r), Project(api.View{}, r)
	a.Attrs[0].Value = "x"
	_ = append(b.Attrs[:1], api.Attr{Key: "z"})
	if r.Attrs[0].Value != "1" || r.Attrs[1].Key != "b" || b.Attrs[0].Value != "1" {
		t.Error("a record that is shown shares memory")
	}
	p := plan(t, api.KLine, `{b="1"} | c="3"`)
	n := Names(p)
	n[0] = "x"
	if !slices.Equal(Names(p), []string{"b", "c"}) {
		t.Error("names are seen in others")
	}
}

// scribble writes into all lists of a plan.
func scribble(p Plan) {
	over := func(l []api.Matcher) {
		for i := range l {
			l[i] = ma(2, "scribble", "!")
		}
		_ = append(l, ma(2, "scribble", "!"))
	}
	words := func(l []string) {
		for i := range l {
			l[i] = "scribble"
		}
	}
	for i := range p.Metric {
		over(p.Metric[i].Match)
		words(p.Metric[i].By)
		p.Metric[i].Name = "scribble"
	}
	for _, l := range [][]api.Matcher{p.View.Scope, p.Log.Match, p.Log.Tests, p.Trace.First.Match, p.Trace.Second.Match} {
		over(l)
	}
	words(p.View.Hidden)
}

// The calls of one query tell it as its package does.
func TestKindsApart(t *testing.T) {
	l, _, _ := metricq.Parse(`up{a="1"}`)
	in, e := Metric(l, api.View{Scope: []api.Matcher{ma(1, "b", "2")}})
	if want, _, _ := metricq.Parse(`up{a="1", b="2"}`); e != api.OK || !metricq.Same(in, want) {
		t.Errorf("Metric = %v, %d", in, e)
	}
	q, _, _ := logq.Parse(`{a="1"}`)
	inLog, e := Log(q, api.View{Scope: []api.Matcher{ma(1, "b", "2")}})
	if want, _, _ := logq.Parse(`{a="1", b="2"}`); e != api.OK || !logq.Same(inLog, want) {
		t.Errorf("Log = %v, %d", inLog, e)
	}
	s, _, _ := traceq.Parse(`spans {a="1"} with child`)
	inTrace, e := Trace(s, api.View{Scope: []api.Matcher{ma(1, "b", "2")}})
	if want, _, _ := traceq.Parse(`spans {a="1", b="2"} with child {b="2"}`); e != api.OK || !traceq.Same(inTrace, want) {
		t.Errorf("Trace = %v, %d", inTrace, e)
	}
}
