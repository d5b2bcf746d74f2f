package logq

import (
	"math"
	"math/rand"
	"slices"
	"strings"
	"testing"

	"belfry/api"
	"belfry/attr"
)

func ma(op int, key, value string) api.Matcher {
	return api.Matcher{Op: op, Key: key, Value: value}
}

// has and not are tests of the text.
func has(value string) api.Matcher { return ma(api.MHas, "", value) }
func not(value string) api.Matcher { return ma(api.MNot, "", value) }

func tests(l ...api.Matcher) api.LogQuery { return api.LogQuery{Tests: l} }

func many(n int, m api.Matcher) []api.Matcher { return slices.Repeat([]api.Matcher{m}, n) }

// P14.1: queries that can be, at the edges of what may be.
func TestRight(t *testing.T) {
	for _, q := range []api.LogQuery{
		{}, {Match: []api.Matcher{}, Tests: []api.Matcher{}}, {Level: 1}, {Level: 24}, {Limit: 1}, {Limit: MaxLimit}, {Match: many(8, ma(1, "a", ""))}, tests(many(8, has("x"))...),
		tests(has(strings.Repeat("v", 256))), tests(not("\n\"\\é")), tests(ma(1, "a", "")), tests(ma(4, strings.Repeat("k", 64), strings.Repeat("v", 256))), tests(ma(2, "level", "")), tests(ma(3, "limit", "5")),
	} {
		if e := Right(q); e != api.OK {
			t.Errorf("Right(%v) = %d", q, e)
		}
		if s, e := Print(q); s == "" || e != api.OK {
			t.Errorf("Print(%v) = %q, %d", q, s, e)
		}
	}
	if MaxLimit != 1000 {
		t.Errorf("MaxLimit = %d", MaxLimit)
	}
}

// P14.1: what is wrong with a query, in the order of its errors.
func TestNotRight(t *testing.T) {
	long := strings.Repeat("k", 65)
	value := strings.Repeat("v", 257)
	wide := []api.Matcher{has(strings.Repeat("v", 256)), has(strings.Repeat("v", 256)), has(strings.Repeat("v", 256)), has(strings.Repeat("v", 256))}
	for _, c := range []struct {
		q api.LogQuery
		e api.Errno
	}{
		{api.LogQuery{Match: many(9, ma(0, "", value)), Level: -1}, api.ErrFull},
		{api.LogQuery{Match: many(8, ma(0, "", value)), Level: -1}, api.ErrOp},
		{api.LogQuery{Match: many(1, ma(5, "a", "")), Level: 25, Tests: many(9, has(""))}, api.ErrOp},
		{api.LogQuery{Match: many(1, ma(3, "", "x")), Level: 25}, api.ErrKey},
		{api.LogQuery{Match: many(1, ma(3, long, "x")), Limit: 1001}, api.ErrKey},
		{api.LogQuery{Match: many(1, ma(1, "a", "\xff")), Limit: -1}, api.ErrValue},
		{api.LogQuery{Match: []api.Matcher{ma(1, "a", ""), ma(1, "a", value)}, Limit: -1}, api.ErrValue},
		{api.LogQuery{Level: -1, Tests: many(9, has(""))}, api.ErrArg},
		{api.LogQuery{Level: 25}, api.ErrArg},
		{api.LogQuery{Level: math.MinInt}, api.ErrArg},
		{api.LogQuery{Level: math.MaxInt}, api.ErrArg},
		{api.LogQuery{Limit: -1, Tests: many(9, has(""))}, api.ErrArg},
		{api.LogQuery{Limit: 1001}, api.ErrArg},
		{api.LogQuery{Limit: math.MinInt}, api.ErrArg},
		{api.LogQuery{Limit: math.MaxInt}, api.ErrArg},
		{tests(many(9, has(""))...), api.ErrFull},
		{tests(many(9, has("x"))...), api.ErrFull},
		{tests(has("x"), ma(0, "", "x")), api.ErrOp},
		{tests(ma(1, "", "")), api.ErrOp},
		{tests(ma(2, "", "x")), api.ErrOp},
		{tests(ma(5, "", "x")), api.ErrOp},
		{tests(ma(math.MinInt, "", "x")), api.ErrOp},
		{tests(ma(0, long, value)), api.ErrOp},
		{tests(ma(5, "a", "")), api.ErrOp},
		{tests(ma(1, long, value)), api.ErrKey},
		{tests(ma(1, "1", "")), api.ErrKey},
		{tests(ma(1, " ", "")), api.ErrKey},
		{tests(ma(1, "a", value)), api.ErrValue},
		{tests(ma(4, "a", "\xff")), api.ErrValue},
		{tests(has("")), api.ErrValue},
		{tests(not("")), api.ErrValue},
		{tests(has(value)), api.ErrValue},
		{tests(not("a\xffb")), api.ErrValue},
		{tests(append(slices.Clone(wide), has(""), ma(1, "", ""))...), api.ErrValue},
		{tests(wide...), api.ErrSize},
		{api.LogQuery{Match: many(8, ma(1, "a", strings.Repeat("\n", 256)))}, api.ErrSize},
	} {
		if e := Right(c.q); e != c.e {
			t.Errorf("Right(%v) = %d, want %d", c.q, e, c.e)
		}
		if s, e := Print(c.q); s != "" || e != c.e {
			t.Errorf("Print(%v) = %q, %d, want %d", c.q, s, e, c.e)
		}
	}
}

// P14.1: a text of MaxLine bytes may be, one more is too long.
func TestRightSize(t *testing.T) {
	for _, c := range []struct {
		last int
		e    api.Errno
	}{{234, api.OK}, {235, api.ErrSize}} {
		q := tests(has(strings.Repeat("v", 256)), not(strings.Repeat("v", 256)), ma(1, "ab", strings.Repeat("v", 250)), has(strings.Repeat("v", c.last)))
		if e := Right(q); e != c.e {
			t.Errorf("Right of %d bytes = %d", len(text(q)), e)
		}
		if s, e := Print(q); e != c.e || e == api.OK && len(s) != api.MaxLine {
			t.Errorf("Print of %d bytes = %d bytes, %d", len(text(q)), len(s), e)
		}
	}
}

// P14.1: Same asks each field.
func TestSame(t *testing.T) {
	full := func() api.LogQuery {
		return api.LogQuery{Match: []api.Matcher{ma(1, "a", "1"), ma(2, "b", "2")}, Level: 3, Tests: []api.Matcher{has("x"), not("y")}, Limit: 4}
	}
	for i, change := range []func(*api.LogQuery){
		func(q *api.LogQuery) { q.Level++ }, func(q *api.LogQuery) { q.Limit++ },
		func(q *api.LogQuery) { q.Match = nil }, func(q *api.LogQuery) { q.Match = q.Match[:1] }, func(q *api.LogQuery) { q.Match[1].Op = 1 }, func(q *api.LogQuery) { q.Match[1].Key = "a" }, func(q *api.LogQuery) { q.Match[0].Value = "" }, func(q *api.LogQuery) { slices.Reverse(q.Match) },
		func(q *api.LogQuery) { q.Tests = nil }, func(q *api.LogQuery) { q.Tests = q.Tests[:1] }, func(q *api.LogQuery) { q.Tests[1].Op = 1 }, func(q *api.LogQuery) { q.Tests[1].Key = "a" }, func(q *api.LogQuery) { q.Tests[0].Value = "" }, func(q *api.LogQuery) { slices.Reverse(q.Tests) },
		func(q *api.LogQuery) { q.Match, q.Tests = q.Tests, q.Match },
	} {
		a, b := full(), full()
		if !Same(a, b) {
			t.Fatal("Same of two that are the same")
		}
		change(&b)
		if Same(a, b) || Same(b, a) {
			t.Errorf("Same does not see the change %d", i)
		}
	}
	if !Same(api.LogQuery{}, api.LogQuery{Match: []api.Matcher{}, Tests: []api.Matcher{}}) {
		t.Error("an empty list is not as none")
	}
}

// line is a line with the attributes of a set's text.
func line(level int, text, set string) api.Record {
	l, e, _ := attr.Parse(set)
	if e != api.OK {
		panic(set)
	}
	return api.Record{Kind: api.KLine, Level: level, Text: text, Attrs: l}
}

// P14.3: what fits, and what does not.
func TestFits(t *testing.T) {
	error9 := line(9, "an error\nof two", `{env="prod", user="bob"}`)
	for _, c := range []struct {
		s    string
		want bool
	}{
		{`{}`, true}, {`{env="prod"}`, true}, {`{env="test"}`, false}, {`{env!="test", user=~"o"}`, true}, {`{env="prod", user="ann"}`, false}, {`{a=""}`, true}, {`{a!=""}`, false},
		{`{} | level 8`, true}, {`{} | level 9`, true}, {`{} | level 10`, false},
		{`{} |= "error"`, true}, {`{} |= "Error"`, false}, {`{} |= "r\no"`, true}, {`{} != "error"`, false}, {`{} != "x"`, true}, {`{} |= "an" |= "two"`, true}, {`{} |= "an" |= "three"`, false}, {`{} |= "an" != "two"`, false},
		{`{} | user="bob"`, true}, {`{} | user!="bob"`, false}, {`{} | user=~"b"`, true}, {`{} | user!~"b"`, false}, {`{} | level=""`, true}, {`{} | text="an error"`, false}, {`{} | a=""`, true}, {`{} | a=~""`, true}, {`{} | a!~""`, false},
		{`{} | limit 1`, true}, {`{env="prod"} | level 9 |= "error" | user!="ann" | limit 5`, true}, {`{env="prod"} | level 9 |= "error" | user!="bob"`, false},
	} {
		q, e, _ := Parse(c.s)
		if e != api.OK {
			t.Fatalf("Parse(%q) = %d", c.s, e)
		}
		if got := Fits(q, error9); got != c.want {
			t.Errorf("%s fits: %v", c.s, got)
		}
	}
}

// P14.3: what is no line fits nothing; Limit plays no part.
func TestFitsKinds(t *testing.T) {
	for _, kind := range []int{0, api.KPoint, api.KSpan, 4, -1, math.MaxInt} {
		if Fits(api.LogQuery{}, api.Record{Kind: kind}) {
			t.Errorf("a record of the kind %d fits", kind)
		}
	}
	for _, limit := range []int{0, 1, 1000, 1001, -1, math.MinInt} {
		if !Fits(api.LogQuery{Limit: limit}, api.Record{Kind: api.KLine}) {
			t.Errorf("a line does not fit with the limit %d", limit)
		}
	}
}

// P14.3: queries that can not be, by the same words.
func TestFitsWrong(t *testing.T) {
	r := line(3, "abc", `{k="v"}`)
	for _, c := range []struct {
		q    api.LogQuery
		want bool
	}{
		{api.LogQuery{Level: -1}, true}, {api.LogQuery{Level: math.MinInt}, true}, {api.LogQuery{Level: 25}, false}, {api.LogQuery{Level: math.MaxInt}, false},
		{tests(has("")), true}, {tests(not("")), false}, {tests(ma(0, "", "abc")), false}, {tests(ma(1, "", "abc")), false}, {tests(ma(2, "", "x")), false}, {tests(ma(5, "", "")), false}, {tests(ma(-1, "", "abc")), false}, {tests(ma(math.MaxInt, "", "abc")), false},
		{tests(ma(0, "k", "v")), false}, {tests(ma(5, "k", "v")), false}, {tests(ma(1, "1", "")), true}, {tests(ma(2, "1", "x")), true}, {tests(ma(1, "1", "x")), false},
		{tests(many(9, has("b"))...), true}, {tests(append(many(9, has("b")), has("x"))...), false}, {tests(has("\xff")), false}, {tests(not("\xff")), true},
		{api.LogQuery{Match: many(9, ma(1, "k", "v"))}, true}, {api.LogQuery{Match: many(1, ma(0, "k", "v"))}, false}, {api.LogQuery{Match: many(1, ma(1, "", ""))}, true},
	} {
		if got := Fits(c.q, r); got != c.want {
			t.Errorf("%v fits: %v", c.q, got)
		}
	}
	if r.Level = -5; Fits(api.LogQuery{}, r) || !Fits(api.LogQuery{Level: -5}, r) {
		t.Error("a level below 0")
	}
	if !Fits(tests(has("\xff")), api.Record{Kind: api.KLine, Text: "a\xff"}) {
		t.Error("a text that is no UTF-8")
	}
}

func anyTest(r *rand.Rand) api.Matcher {
	m := ma(1+r.Intn(4), []string{"", "", "a", "b", "level"}[r.Intn(5)], []string{"", "x", "y", "xy", "\n\"", "é\\"}[r.Intn(6)])
	if m.Key == "" {
		m.Op = 3 + r.Intn(2)
		m.Value += "x"
	}
	return m
}

// anyQuery is a query of few keys and values.
func anyQuery(r *rand.Rand) api.LogQuery {
	q := api.LogQuery{Level: r.Intn(4) * r.Intn(4), Limit: r.Intn(2) * r.Intn(1001)}
	for range r.Intn(3) {
		q.Match = append(q.Match, ma(1+r.Intn(4), []string{"a", "b.c"}[r.Intn(2)], []string{"", "x", "}"}[r.Intn(3)]))
	}
	for range r.Intn(4) {
		q.Tests = append(q.Tests, anyTest(r))
	}
	return q
}

func anyLine(r *rand.Rand) api.Record {
	l := line(r.Intn(10), []string{"", "x", "xyx", "yx\n\"x", "é\\x"}[r.Intn(5)], `{}`)
	for _, key := range []string{"a", "b", "b.c", "level"} {
		if v := []string{"", "x", "y", "xy"}[r.Intn(4)]; v != "" {
			l.Attrs = append(l.Attrs, api.Attr{Key: key, Value: v})
		}
	}
	return l
}

// P14.5: a test more lets no line more fit; a line fits just if it fits each part alone. P14.6: the order of tests plays no part.
func TestParts(t *testing.T) {
	r := rand.New(rand.NewSource(145))
	fit := 0
	for range 50000 {
		q, l := anyQuery(r), anyLine(r)
		got := Fits(q, l)
		if got {
			fit++
		}
		alone := Fits(api.LogQuery{Level: q.Level}, l) && Fits(api.LogQuery{Limit: q.Limit}, l)
		for _, m := range q.Match {
			alone = alone && Fits(api.LogQuery{Match: []api.Matcher{m}}, l)
		}
		for _, m := range q.Tests {
			alone = alone && Fits(tests(m), l)
		}
		if got != alone {
			t.Fatalf("%v fits %v: %v, but each part alone: %v", l, q, got, alone)
		}
		mixed := q
		mixed.Tests = slices.Clone(q.Tests)
		r.Shuffle(len(mixed.Tests), func(i, j int) { mixed.Tests[i], mixed.Tests[j] = mixed.Tests[j], mixed.Tests[i] })
		if Fits(mixed, l) != got {
			t.Fatalf("the order of tests plays a part: %v, %v", q, mixed)
		}
		mixed.Tests = append(mixed.Tests, anyTest(r))
		if Fits(mixed, l) && !got {
			t.Fatalf("a test more lets %v fit: %v", l, mixed)
		}
	}
	if fit < 5000 {
		t.Errorf("only %d lines fit: the test tells little", fit)
	}
}
