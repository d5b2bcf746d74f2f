package meval

import (
	"math"
	"slices"
	"strings"
	"testing"

	"belfry/api"
	"belfry/attr"
	"belfry/fixed"
	"belfry/metricq"
	"belfry/store"
)

func set(t *testing.T, s string) []api.Attr {
	t.Helper()
	l, e, at := attr.Parse(s)
	if e != api.OK {
		t.Fatalf("attr.Parse(%q) = %d, %d", s, e, at)
	}
	return l
}

func point(t *testing.T, name, attrs string, at, v int64) api.Record {
	t.Helper()
	return api.Record{Kind: api.KPoint, Name: name, Attrs: set(t, attrs), T: at, V: v}
}

func made(t *testing.T, l ...api.Record) *store.Store {
	t.Helper()
	s := store.New(api.MaxStore)
	for _, r := range l {
		if e := s.Put(r); e != api.OK {
			t.Fatalf("Put(%v) = %d", r, e)
		}
	}
	return s
}

func query(t *testing.T, s string) []api.Node {
	t.Helper()
	l, e, at := metricq.Parse(s)
	if e != api.OK {
		t.Fatalf("metricq.Parse(%q) = %d, %d", s, e, at)
	}
	return l
}

// is holds a query of one source to a text and to its steps, and to ErrBudget with a step less.
func is(t *testing.T, s Source, q string, at int64, want string, steps int) {
	t.Helper()
	s.Query = query(t, q)
	v, n, e := Eval([]Source{s}, at, api.MaxSteps)
	if e != api.OK || Text(v) != want || n != steps {
		t.Errorf("%s at %d = %q, %d, %d, want %q, %d", q, at, Text(v), n, e, want, steps)
	}
	if n > 1 {
		fails(t, q, []Source{s}, at, n-1, api.ErrBudget)
	}
	if again, m, e := Eval([]Source{s}, at, max(n, 1)); e != api.OK || m != n || Text(again) != Text(v) {
		t.Errorf("%s at %d with %d steps = %q, %d, %d", q, at, n, Text(again), m, e)
	}
}

func fails(t *testing.T, what string, l []Source, at int64, budget int, want api.Errno) {
	t.Helper()
	v, n, e := Eval(l, at, budget)
	if e != want || v.Scalar || v.V != 0 || len(v.L) != 0 || n != 0 {
		t.Errorf("%s: Eval at %d within %d = %v, %d, %d, want %d", what, at, budget, v, n, e, want)
	}
}

func two(t *testing.T) *store.Store {
	return made(t, point(t, "up", `{a="1"}`, 5, 2*api.One), point(t, "up", `{a="2"}`, 6, 4*api.One))
}

// P17.1, P17.2, P17.3: the chapter's examples, and that of the page.
func TestExamples(t *testing.T) {
	acme := Source{Owner: "acme", Store: two(t)}
	is(t, acme, "sum(up)", 7, "{} 6\n", 7)
	is(t, acme, "up * 2", 7, "{a=\"1\", tenant=\"acme\"} 4\n{a=\"2\", tenant=\"acme\"} 8\n", 9)
	v, ok := Rate([]api.Record{{V: api.One}, {V: 3 * api.One}, {V: 2 * api.One}}, 1000000000)
	if v != 4*api.One || !ok {
		t.Errorf("Rate = %d, %v", v, ok)
	}
}

// P17.1: the errors, in order; with each all else is zero.
func TestErrors(t *testing.T) {
	right := Source{Query: query(t, "1 / 0")}
	wrong := Source{Query: query(t, "1 / 0")[:2]}
	for _, at := range []int64{-1, math.MinInt64, api.MaxTime + 1, math.MaxInt64} {
		fails(t, "no time", []Source{right}, at, 100, api.ErrArg)
		fails(t, "no time, and no sources", nil, at, 100, api.ErrArg)
		fails(t, "no time, and no query", []Source{wrong}, at, 100, api.ErrArg)
	}
	for _, budget := range []int{0, -1, math.MinInt, api.MaxSteps + 1, math.MaxInt} {
		fails(t, "no budget", []Source{right}, 7, budget, api.ErrArg)
		fails(t, "no budget, and no sources", []Source{}, 7, budget, api.ErrArg)
		fails(t, "no budget, and no query", []Source{wrong}, 7, budget, api.ErrArg)
	}
	fails(t, "no sources", nil, 0, 1, api.ErrNone)
	fails(t, "no sources", []Source{}, api.MaxTime, api.MaxSteps, api.ErrNone)
	fails(t, "no query, and no steps for it", []Source{wrong}, 7, 1, api.ErrQuery)
	fails(t, "no nodes", []Source{{}}, 7, 1, api.ErrQuery)
	fails(t, "no steps ahead of the division", []Source{right}, 7, 1, api.ErrBudget)
	fails(t, "no step for the division", []Source{right}, 7, 2, api.ErrBudget)
	fails(t, "by nothing", []Source{right}, 7, 3, api.ErrZero)
	fails(t, "by nothing", []Source{right}, 0, api.MaxSteps, api.ErrZero)
	fails(t, "by nothing", []Source{right}, api.MaxTime, api.MaxSteps, api.ErrZero)
	fails(t, "by nothing, ahead of steps that are too many", []Source{{Query: query(t, "1 / 0 + 1 + 1")}}, 7, 3, api.ErrZero)
	fails(t, "steps that are too many, ahead of nothing", []Source{{Query: query(t, "1 + 1 + 1 / 0")}}, 7, 5, api.ErrBudget)
	fails(t, "by what is nothing", []Source{{Query: query(t, "1 / (2 - 2)")}}, 7, 100, api.ErrZero)
}

// P17.1: nodes that are not right, or not the first source's but for the matchers of selects.
func TestErrQuery(t *testing.T) {
	q := `sum by (a) (up) / rate(up[5m]) + -2 * (max(up))`
	change := func(do func(l []api.Node)) []Source {
		other := query(t, q)
		do(other)
		return []Source{{Query: query(t, q)}, {Query: other}}
	}
	at := func(kind int) int {
		return slices.IndexFunc(query(t, q), func(n api.Node) bool { return n.Kind == kind })
	}
	ranged := slices.IndexFunc(query(t, q), func(n api.Node) bool { return n.Range > 0 })
	for what, l := range map[string][]Source{
		"a select's name":        change(func(l []api.Node) { l[at(api.NSelect)].Name = "down" }),
		"a select's span":        change(func(l []api.Node) { l[ranged].Range++ }),
		"a number":               change(func(l []api.Node) { l[at(api.NNumber)].V++ }),
		"an aggregate":           change(func(l []api.Node) { l[at(api.NAgg)].Name = "min" }),
		"an aggregate's keys":    change(func(l []api.Node) { l[at(api.NAgg)].By = []string{"b"} }),
		"a call":                 change(func(l []api.Node) { l[at(api.NCall)].Name = "delta" }),
		"an operator":            change(func(l []api.Node) { l[at(api.NBinary)].Op = api.OMul }),
		"matchers of no select":  change(func(l []api.Node) { l[at(api.NNumber)].Match = []api.Matcher{{Op: api.MEq, Key: "a"}} }),
		"wrong matchers":         change(func(l []api.Node) { l[at(api.NSelect)].Match = []api.Matcher{{Op: 9, Key: "a"}} }),
		"too many matchers":      change(func(l []api.Node) { l[at(api.NSelect)].Match = make([]api.Matcher, 9) }),
		"a part that is none":    change(func(l []api.Node) { l[at(api.NNeg)].A = 1000 }),
		"a part behind it":       change(func(l []api.Node) { l[at(api.NNeg)].A = len(l) - 1 }),
		"a part below 0":         change(func(l []api.Node) { l[at(api.NNeg)].A = math.MinInt }),
		"a kind that is none":    change(func(l []api.Node) { l[at(api.NNeg)].Kind = 99 }),
		"a select with no call":  {{Query: []api.Node{{Kind: api.NSelect, Name: "up", Range: 5}}}},
		"a query more":           {{Query: query(t, "up")}, {Query: query(t, "up")}, {Query: query(t, "up + 1")}},
		"a query less":           {{Query: query(t, "up")}, {}},
		"a wrong one first":      {{}, {Query: query(t, "up")}},
		"a beginning of another": {{Query: query(t, "up + 1")}, {Query: query(t, "up")}},
	} {
		fails(t, what, l, 7, 100, api.ErrQuery)
	}
	match := change(func(l []api.Node) {
		for _, i := range metricq.Selects(l) {
			l[i].Match = []api.Matcher{{Op: api.MEq, Key: "a", Value: "1"}}
		}
	})
	if _, _, e := Eval(match, 7, 100); e != api.OK {
		t.Errorf("other matchers of selects: %d", e)
	}
}

// P17.1: numbers, without a store; parentheses, signs, and how operators bind.
func TestNumbers(t *testing.T) {
	for _, c := range []struct {
		q, want string
		steps   int
	}{
		{"1", "1\n", 1}, {"0.5", "0.5\n", 1}, {"(1)", "1\n", 2}, {"-1", "-1\n", 2}, {"-(-1)", "1\n", 4}, {"- -1", "1\n", 3},
		{"1 + 2", "3\n", 3}, {"1 - 2", "-1\n", 3}, {"2 * 3", "6\n", 3}, {"1 / 4", "0.25\n", 3}, {"1 / 3", "0.333333\n", 3}, {"-1 / 3", "-0.333333\n", 4},
		{"1 + 2 / 4", "1.5\n", 5}, {"(1 + 2) / 4", "0.75\n", 6}, {"7 - 2 - 1", "4\n", 5}, {"8 / 2 / 2", "2\n", 5}, {"0 / 1", "0\n", 3},
		{"9223372036854.775807 + 1", "9223372036854.775807\n", 3}, {"-9223372036854.775807 - 1", "-9223372036854.775807\n", 4}, {"9223372036854 * 9", "9223372036854.775807\n", 3}, {"9223372036854 / 0.1", "9223372036854.775807\n", 3},
	} {
		is(t, Source{}, c.q, 7, c.want, c.steps)
		is(t, Source{Owner: "acme", Store: two(t), Hidden: []string{"a"}}, c.q, 7, c.want, c.steps)
	}
	v, _, _ := Eval([]Source{{Query: query(t, "2 * 3")}}, 7, 9)
	if !v.Scalar || v.V != 6*api.One || len(v.L) != 0 {
		t.Errorf("a number is %v", v)
	}
}

// P17.1: a nil store has no series, and neither has one without that name.
func TestNoSeries(t *testing.T) {
	for _, s := range []Source{{}, {Owner: "acme"}, {Store: made(t)}, {Store: made(t, point(t, "u", "{}", 5, 1), point(t, "upp", "{}", 5, 1), point(t, "", "{}", 5, 1))}} {
		is(t, s, "up", 7, "", 1)
		is(t, s, "rate(up[5m])", 7, "", 2)
		is(t, s, "last(up[5m])", 7, "", 2)
		is(t, s, "sum(up)", 7, "", 2)
		is(t, s, "count(up)", 7, "", 2)
		is(t, s, "-up + 1 * up / up", 7, "", 8)
		is(t, s, "sum(1)", 7, "{} 1\n", 3)
	}
	other := made(t, api.Record{Kind: api.KLine, Name: "up", T: 5}, api.Record{Kind: api.KSpan, Name: "up", T: 5})
	is(t, Source{Store: other}, "up", 7, "", 1)
}

// P17.1: a select without a span tells the last point of the last Look nanoseconds, and looks at all of its series.
func TestSelect(t *testing.T) {
	s := Source{Store: made(t, point(t, "up", "{}", 5, 1*api.One), point(t, "up", "{}", 7, 2*api.One), point(t, "up", "{}", Look+9, 3*api.One), point(t, "down", "{}", 6, 9*api.One))}
	for at, want := range map[int64]string{0: "", 4: "", 5: "{} 1\n", 6: "{} 1\n", 7: "{} 2\n", 8: "{} 2\n", Look + 6: "{} 2\n", Look + 7: "", Look + 8: "", Look + 9: "{} 3\n", 2*Look + 8: "{} 3\n", 2*Look + 9: "", api.MaxTime: ""} {
		steps := 4
		if want != "" {
			steps++
		}
		is(t, s, "up", at, want, steps)
	}
	early := Source{Store: made(t, point(t, "up", "{}", math.MinInt64, 1), point(t, "up", "{}", -Look, 2*api.One), point(t, "up", "{}", 1-Look, 4*api.One), point(t, "up", "{}", math.MaxInt64, 3*api.One))}
	is(t, early, "up", 0, "{} 4\n", 6)
	is(t, early, "up", 1, "", 5)
	is(t, early, "up", api.MaxTime, "", 5)
	is(t, Source{Store: made(t, point(t, "up", "{}", -Look, 2*api.One))}, "up", 0, "", 2)
	last := Source{Store: made(t, point(t, "up", "{}", api.MaxTime, 2*api.One))}
	is(t, last, "up", api.MaxTime, "{} 2\n", 3)
	is(t, last, "up", api.MaxTime-1, "", 2)
}

// P17.1: what does not fit a select's matchers, as the store has it, takes no step.
func TestSelectMatch(t *testing.T) {
	s := Source{Owner: "acme", Hidden: []string{"user"}, Store: made(t,
		point(t, "up", `{env="prod", user="ann"}`, 5, 1*api.One), point(t, "up", `{env="prod", user="bob"}`, 5, 2*api.One), point(t, "up", `{env="test", tenant="x"}`, 5, 3*api.One), point(t, "down", `{env="prod"}`, 5, 9*api.One))}
	is(t, s, `up{env="prod"}`, 5, "{env=\"prod\", tenant=\"acme\"} 1\n{env=\"prod\", tenant=\"acme\"} 2\n", 5)
	is(t, s, `up{user="bob"}`, 5, "{env=\"prod\", tenant=\"acme\"} 2\n", 3)
	is(t, s, `up{user!~"b", env=~"r"}`, 5, "{env=\"prod\", tenant=\"acme\"} 1\n", 3)
	is(t, s, `up{tenant="x"}`, 5, "{env=\"test\", tenant=\"acme\"} 3\n", 3)
	is(t, s, `up{tenant="acme"}`, 5, "", 1)
	is(t, s, `up{env="none"}`, 5, "", 1)
}

// P17.1: a series is shown without the hidden keys and its own tenant, with the owner's.
func TestShown(t *testing.T) {
	for _, c := range []struct {
		owner, hidden, attrs, want string
	}{
		{"acme", "", `{}`, `{tenant="acme"}`},
		{"", "", `{}`, `{}`},
		{"acme", "", `{a="1", z="2"}`, `{a="1", tenant="acme", z="2"}`},
		{"acme", "", `{tenant="x"}`, `{tenant="acme"}`},
		{"", "", `{a="1", tenant="x"}`, `{a="1"}`},
		{"acme", "tenant", `{tenant="x", u="1"}`, `{tenant="acme", u="1"}`},
		{"acme", "a z", `{a="1", b="2", z="3"}`, `{b="2", tenant="acme"}`},
		{"acme", "b b none", `{a="1", b="2"}`, `{a="1", tenant="acme"}`},
		{"", "a", `{a="1"}`, `{}`},
		{"acme", "", `{tenan="1", tenanta="2"}`, `{tenan="1", tenant="acme", tenanta="2"}`},
		{"acme", "", `{Z="1", tenan.t="2", tenant.a="3"}`, `{Z="1", tenan.t="2", tenant="acme", tenant.a="3"}`},
		{"any\n\"text\"", "", `{}`, `{tenant="any\n\"text\""}`},
		{"acme", "", `{a1="1", a2="1", a3="1", a4="1", a5="1", a6="1", a7="1", a8="1", b1="1", b2="1", b3="1", b4="1", b5="1", b6="1", b7="1", z="1"}`, `{a1="1", a2="1", a3="1", a4="1", a5="1", a6="1", a7="1", a8="1", b1="1", b2="1", b3="1", b4="1", b5="1", b6="1", b7="1", tenant="acme", z="1"}`},
	} {
		s := Source{Owner: c.owner, Hidden: strings.Fields(c.hidden), Store: made(t, point(t, "up", c.attrs, 5, api.One), point(t, "up", c.attrs, 6, 2*api.One))}
		is(t, s, "up", 7, c.want+" 2\n", 4)
		is(t, s, "last(up[9ns])", 7, c.want+" 2\n", 5)
	}
}

// P17.1: a call sees the points of its span, the last one of it and none ahead of it; what it can not reckon makes no point.
func TestCalls(t *testing.T) {
	s := Source{Store: made(t, point(t, "up", "{}", 5, 1*api.One), point(t, "up", "{}", 7, 4*api.One), point(t, "up", "{}", 9, 2*api.One), point(t, "up", "{}", 11, 7*api.One), point(t, "other", "{}", 8, 1))}
	for _, c := range []struct {
		q     string
		at    int64
		want  string
		steps int
	}{
		{"last(up[2ns])", 4, "", 2}, {"last(up[2ns])", 5, "{} 1\n", 4}, {"last(up[2ns])", 6, "{} 1\n", 4}, {"last(up[2ns])", 7, "{} 4\n", 4}, {"last(up[3ns])", 7, "{} 4\n", 5}, {"last(up[9m])", 10, "{} 2\n", 6}, {"last(up[9m])", 11, "{} 7\n", 7}, {"last(up[1ns])", 12, "", 2},
		{"delta(up[2ns])", 4, "", 2}, {"delta(up[2ns])", 5, "{} 0\n", 4}, {"delta(up[3ns])", 7, "{} 3\n", 5}, {"delta(up[3ns])", 9, "{} -2\n", 5}, {"delta(up[4ns])", 9, "{} -2\n", 5}, {"delta(up[5ns])", 9, "{} 1\n", 6}, {"delta(up[312h])", 11, "{} 6\n", 7}, {"delta(up[1ns])", 10, "", 2},
		{"rate(up[2ns])", 4, "", 2}, {"rate(up[2ns])", 5, "", 3}, {"rate(up[1s])", 7, "{} 3\n", 5}, {"rate(up[1s])", 9, "{} 5\n", 6}, {"rate(up[2s])", 11, "{} 5\n", 7}, {"rate(up[10s])", 11, "{} 1\n", 7}, {"rate(up[3ns])", 7, "{} 3000000\n", 5}, {"rate(up[999ns])", 7, "{} 3000000\n", 5}, {"rate(up[1us])", 7, "{} 3000000\n", 5}, {"rate(up[1999ns])", 7, "{} 3000000\n", 5}, {"rate(up[2us])", 7, "{} 1500000\n", 5},
	} {
		is(t, s, c.q, c.at, c.want, c.steps)
	}
	const span = 312 * 3600 * 1000000000 // the longest that can be written with a unit of hours
	long := Source{Store: made(t, point(t, "up", "{}", -span, 9*api.One), point(t, "up", "{}", 1-span, api.One), point(t, "up", "{}", 0, 2*api.One), point(t, "up", "{}", 1, 5*api.One))}
	is(t, long, "delta(up[312h])", 0, "{} 1\n", 5)
	is(t, long, "delta(up[312h])", 1, "{} 3\n", 5)
}

// P17.1: each series has its own point, and a point is of the series as it is shown: two may have the same attributes.
func TestSeveralSeries(t *testing.T) {
	s := Source{Owner: "acme", Hidden: []string{"user"}, Store: made(t,
		point(t, "up", `{user="ann"}`, 5, 7*api.One), point(t, "up", `{user="ann"}`, 6, 9*api.One), point(t, "up", `{user="bob"}`, 5, 1*api.One), point(t, "up", `{user="bob"}`, 6, 2*api.One), point(t, "up", `{env="a", user="bob"}`, 6, 3*api.One), point(t, "up", `{z="a"}`, 6, 4*api.One))}
	is(t, s, "up", 6, "{env=\"a\", tenant=\"acme\"} 3\n{tenant=\"acme\"} 2\n{tenant=\"acme\"} 9\n{tenant=\"acme\", z=\"a\"} 4\n", 11)
	is(t, s, "-up", 6, "{env=\"a\", tenant=\"acme\"} -3\n{tenant=\"acme\"} -9\n{tenant=\"acme\"} -2\n{tenant=\"acme\", z=\"a\"} -4\n", 16)
	is(t, s, "1 - up", 6, "{env=\"a\", tenant=\"acme\"} -2\n{tenant=\"acme\"} -8\n{tenant=\"acme\"} -1\n{tenant=\"acme\", z=\"a\"} -3\n", 17)
	is(t, s, "up * -1", 6, "{env=\"a\", tenant=\"acme\"} -3\n{tenant=\"acme\"} -9\n{tenant=\"acme\"} -2\n{tenant=\"acme\", z=\"a\"} -4\n", 18)
	is(t, s, "delta(up[9ns])", 6, "{env=\"a\", tenant=\"acme\"} 0\n{tenant=\"acme\"} 1\n{tenant=\"acme\"} 2\n{tenant=\"acme\", z=\"a\"} 0\n", 12)
	is(t, s, "rate(up[1s])", 6, "{tenant=\"acme\"} 1\n{tenant=\"acme\"} 2\n", 10)
	is(t, s, "(up)", 6, "{env=\"a\", tenant=\"acme\"} 3\n{tenant=\"acme\"} 2\n{tenant=\"acme\"} 9\n{tenant=\"acme\", z=\"a\"} 4\n", 12)
	is(t, s, "((-up))", 6, "{env=\"a\", tenant=\"acme\"} -3\n{tenant=\"acme\"} -9\n{tenant=\"acme\"} -2\n{tenant=\"acme\", z=\"a\"} -4\n", 18)
}

// P17.1: an operator on points and a number: in this order, with the point's attributes; a division by 0 makes no point.
func TestBinaryNumber(t *testing.T) {
	s := Source{Store: made(t, point(t, "up", `{a="1"}`, 5, 2*api.One), point(t, "up", `{a="2"}`, 5, 0), point(t, "up", `{a="3"}`, 5, -4*api.One))}
	for q, want := range map[string]string{
		"up + 1": `{a="1"} 3 {a="2"} 1 {a="3"} -3`, "1 + up": `{a="1"} 3 {a="2"} 1 {a="3"} -3`,
		"up - 1": `{a="1"} 1 {a="2"} -1 {a="3"} -5`, "1 - up": `{a="1"} -1 {a="2"} 1 {a="3"} 5`,
		"up * 3": `{a="1"} 6 {a="2"} 0 {a="3"} -12`, "3 * up": `{a="1"} 6 {a="2"} 0 {a="3"} -12`,
		"up / 2": `{a="1"} 1 {a="2"} 0 {a="3"} -2`, "1 / up": `{a="1"} 0.5 {a="3"} -0.25`,
		"up / 0": "", "0 / up": `{a="1"} 0 {a="3"} 0`, "up / (1 - 1)": "",
	} {
		v, n, e := Eval([]Source{{Store: s.Store, Query: query(t, q)}}, 5, 100)
		steps := len(query(t, q)) + 6 + len(v.L)
		if got := strings.TrimSpace(strings.ReplaceAll(Text(v), "\n", " ")); e != api.OK || got != want || n != steps {
			t.Errorf("%s = %s, %d, %d, want %s, %d", q, got, n, e, want, steps)
		}
	}
}

// P17.1: points and points: the left one's attributes, the first one on the right with the same; where there is none, no point.
func TestBinaryPoints(t *testing.T) {
	s := made(t,
		point(t, "l", `{a="1"}`, 5, 1*api.One), point(t, "l", `{a="2", h="1"}`, 5, 5*api.One), point(t, "l", `{a="2", h="2"}`, 5, 4*api.One), point(t, "l", `{a="3"}`, 5, 6*api.One), point(t, "l", `{a="5"}`, 5, 7*api.One), point(t, "l", `{a="7"}`, 5, 9*api.One),
		point(t, "r", `{}`, 5, 90*api.One), point(t, "r", `{a="2", h="1"}`, 5, 30*api.One), point(t, "r", `{a="2", h="2"}`, 5, 20*api.One), point(t, "r", `{a="2", h="3"}`, 5, 10*api.One), point(t, "r", `{a="3"}`, 5, 0), point(t, "r", `{a="4"}`, 5, 50*api.One), point(t, "r", `{a="5"}`, 5, 70*api.One), point(t, "r", `{a="5", b="1"}`, 5, 80*api.One))
	for q, want := range map[string]string{
		"l + r": `{a="2"} 14 {a="2"} 15 {a="3"} 6 {a="5"} 77`,
		"l - r": `{a="2"} -6 {a="2"} -5 {a="3"} 6 {a="5"} -63`,
		"l * r": `{a="2"} 40 {a="2"} 50 {a="3"} 0 {a="5"} 490`,
		"l / r": `{a="2"} 0.4 {a="2"} 0.5 {a="5"} 0.1`,
		"r / l": `{a="2"} 2.5 {a="2"} 5 {a="2"} 7.5 {a="3"} 0 {a="5"} 10`,
		"r - l": `{a="2"} 6 {a="2"} 16 {a="2"} 26 {a="3"} -6 {a="5"} 63`,
		"l - l": `{a="1"} 0 {a="2"} 0 {a="2"} 1 {a="3"} 0 {a="5"} 0 {a="7"} 0`,
		"l + n": "", "n + l": "", "n * n": "",
	} {
		v, n, e := Eval([]Source{{Store: s, Query: query(t, q), Hidden: []string{"h"}}}, 5, 100)
		steps := 3 + 2*6*strings.Count(q, "l") + 2*8*strings.Count(q, "r") + len(v.L)
		if got := strings.TrimSpace(strings.ReplaceAll(Text(v), "\n", " ")); e != api.OK || got != want || n != steps {
			t.Errorf("%s = %s, %d, %d, want %s, %d", q, got, n, e, want, steps)
		}
	}
}

// P17.1: aggregates of what a part tells, one within the other, of numbers too.
func TestAggregates(t *testing.T) {
	acme := Source{Owner: "acme", Store: made(t, point(t, "up", `{a="1", b="1"}`, 5, 1*api.One), point(t, "up", `{a="1", b="2"}`, 5, 2*api.One), point(t, "up", `{a="2"}`, 5, 6*api.One), point(t, "up", `{}`, 5, 7*api.One))}
	for _, c := range []struct {
		q, want string
		steps   int
	}{
		{"sum(up)", "{} 16\n", 11}, {"min(up)", "{} 1\n", 11}, {"max(up)", "{} 7\n", 11}, {"avg(up)", "{} 4\n", 11}, {"count(up)", "{} 4\n", 11},
		{"sum by (a) (up)", "{} 7\n{a=\"1\"} 3\n{a=\"2\"} 6\n", 13}, {"count by (b) (up)", "{} 2\n{b=\"1\"} 1\n{b=\"2\"} 1\n", 13}, {"max by (b, a) (up)", "{} 7\n{a=\"1\", b=\"1\"} 1\n{a=\"1\", b=\"2\"} 2\n{a=\"2\"} 6\n", 14},
		{"avg by (tenant) (up)", "{tenant=\"acme\"} 4\n", 11}, {"sum by (none) (up)", "{} 16\n", 11},
		{"max(sum by (a) (up))", "{} 7\n", 15}, {"sum(3)", "{} 3\n", 3}, {"count by (a) (3)", "{} 1\n", 3}, {"sum(3) + 1", "{} 4\n", 6}, {"sum(1) / sum(0)", "", 7},
	} {
		is(t, acme, c.q, 5, c.want, c.steps)
	}
}

// P17.3: a value as text, in the order in which it is handed in.
func TestText(t *testing.T) {
	for _, c := range []struct {
		v    Value
		want string
	}{
		{Value{}, ""}, {Value{V: 5}, ""}, {Value{Scalar: true}, "0\n"}, {Value{Scalar: true, V: -1500000}, "-1.5\n"}, {Value{Scalar: true, V: math.MinInt64}, "-9223372036854.775807\n"},
		{Value{Scalar: true, V: 7, L: []api.Point{{V: 1}}}, "0.000007\n"},
		{Value{L: []api.Point{}}, ""}, {Value{L: []api.Point{{}}}, "{} 0\n"},
		{Value{L: []api.Point{{Attrs: []api.Attr{{Key: "b", Value: "x\"y\n"}, {Key: "a", Value: ""}}, V: 2 * api.One}, {V: fixed.Top}}}, "{b=\"x\\\"y\\n\", a=\"\"} 2\n{} 9223372036854.775807\n"},
		{Value{V: 9, L: []api.Point{{V: 3 * api.One}, {V: api.One}, {V: 3 * api.One}}}, "{} 3\n{} 1\n{} 3\n"},
	} {
		if got := Text(c.v); got != c.want {
			t.Errorf("Text(%v) = %q, want %q", c.v, got, c.want)
		}
	}
}
