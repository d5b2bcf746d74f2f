package traceq

import (
	"math"
	"slices"
	"strings"
	"testing"

	"belfry/api"
)

func ma(op int, key, value string) api.Matcher {
	return api.Matcher{Op: op, Key: key, Value: value}
}

func many(n int, m api.Matcher) []api.Matcher { return slices.Repeat([]api.Matcher{m}, n) }

func first(t api.SpanTest) api.TraceQuery { return api.TraceQuery{First: t} }

func below(has int, t api.SpanTest) api.TraceQuery { return api.TraceQuery{Has: has, Second: t} }

// P15.1: queries that can be, at the edges of what may be.
func TestRight(t *testing.T) {
	full := api.SpanTest{Name: strings.Repeat("n", 256), Least: api.MaxTime / 1000000000 * 1000000000, Match: many(8, ma(4, "k", "v"))}
	for _, q := range []api.TraceQuery{
		{}, {Limit: 1}, {Limit: MaxLimit}, {Has: 1}, {Has: 2}, {Has: 2, Limit: 5},
		first(full), below(1, full), {First: full, Second: full, Has: 2, Limit: 1000}, first(api.SpanTest{Match: []api.Matcher{}}), {Second: api.SpanTest{Match: []api.Matcher{}}},
		first(api.SpanTest{Name: "\n\"\\é"}), first(api.SpanTest{Least: 1}), first(api.SpanTest{Least: 999999999}), first(api.SpanTest{Least: 1000000000}), first(api.SpanTest{Least: 999999999000}), below(2, api.SpanTest{Least: 60000000000}),
		first(api.SpanTest{Match: many(1, ma(1, strings.Repeat("k", 64), ""))}), below(1, api.SpanTest{Match: many(1, ma(3, "a", strings.Repeat("v", 256)))}),
	} {
		if e := Right(q); e != api.OK {
			t.Errorf("Right(%v) = %d", q, e)
		}
		if s, e := Print(q); s == "" || e != api.OK {
			t.Errorf("Print(%v) = %q, %d", q, s, e)
		}
	}
	if MaxLimit != 1000 {
		t.Errorf("MaxLimit = %d", MaxLimit)
	}
}

// wrongTests are tests that can not be, in the order of their errors: each has the faults of those behind it, too.
func wrongTests() []struct {
	t api.SpanTest
	e api.Errno
} {
	long := strings.Repeat("k", 65)
	value := strings.Repeat("v", 257)
	nine := many(9, ma(0, long, value))
	return []struct {
		t api.SpanTest
		e api.Errno
	}{
		{api.SpanTest{Name: "\xff", Least: -1, Match: nine}, api.ErrValue},
		{api.SpanTest{Name: value, Least: 1000000001, Match: nine}, api.ErrValue},
		{api.SpanTest{Name: "x", Least: -1, Match: nine}, api.ErrArg},
		{api.SpanTest{Least: math.MinInt64, Match: nine}, api.ErrArg},
		{api.SpanTest{Least: 1000000001, Match: nine}, api.ErrArg},
		{api.SpanTest{Least: api.MaxTime, Match: nine}, api.ErrArg},
		{api.SpanTest{Least: api.MaxTime + 1}, api.ErrArg},
		{api.SpanTest{Least: math.MaxInt64}, api.ErrArg},
		{api.SpanTest{Match: nine}, api.ErrFull},
		{api.SpanTest{Name: "x", Least: 1, Match: many(1, ma(0, long, value))}, api.ErrOp},
		{api.SpanTest{Match: []api.Matcher{ma(1, "a", ""), ma(5, "", "")}}, api.ErrOp},
		{api.SpanTest{Match: many(1, ma(1, long, value))}, api.ErrKey},
		{api.SpanTest{Match: many(1, ma(1, "", "x"))}, api.ErrKey},
		{api.SpanTest{Match: many(1, ma(1, "a", value))}, api.ErrValue},
		{api.SpanTest{Match: many(1, ma(1, "a", "\xff"))}, api.ErrValue},
	}
}

func wantWrong(t *testing.T, q api.TraceQuery, want api.Errno) {
	t.Helper()
	if e := Right(q); e != want {
		t.Errorf("Right(%v) = %d, want %d", q, e, want)
	}
	if s, e := Print(q); s != "" || e != want {
		t.Errorf("Print(%v) = %q, %d, want %d", q, s, e, want)
	}
}

// P15.1: what is wrong with a test: of the first, then of the second, whether one is asked for or not; ahead of what is wrong with the rest.
func TestNotRightTests(t *testing.T) {
	for _, c := range wrongTests() {
		for _, has := range []int{0, 1, 2, 3, -1} {
			wantWrong(t, api.TraceQuery{First: c.t, Has: has, Limit: 1001}, c.e)
			wantWrong(t, api.TraceQuery{Second: c.t, Has: has, Limit: -1}, c.e)
			for _, d := range wrongTests() {
				wantWrong(t, api.TraceQuery{First: c.t, Second: d.t, Has: has}, c.e)
			}
		}
	}
}

// P15.1: what is wrong with the rest, in order.
func TestNotRight(t *testing.T) {
	wide := api.SpanTest{Match: many(4, ma(1, "a", strings.Repeat("v", 256)))}
	for _, c := range []struct {
		q api.TraceQuery
		e api.Errno
	}{
		{api.TraceQuery{Has: -1, First: wide}, api.ErrArg}, {api.TraceQuery{Has: 3, Second: wide}, api.ErrArg}, {api.TraceQuery{Has: math.MinInt}, api.ErrArg}, {api.TraceQuery{Has: math.MaxInt}, api.ErrArg},
		{api.TraceQuery{Limit: -1, Second: wide}, api.ErrArg}, {api.TraceQuery{Limit: 1001, First: wide}, api.ErrArg}, {api.TraceQuery{Limit: math.MinInt}, api.ErrArg}, {api.TraceQuery{Limit: math.MaxInt, Has: 1}, api.ErrArg},
		{api.TraceQuery{First: wide, Second: api.SpanTest{Name: "x"}}, api.ErrForm}, {api.TraceQuery{Second: api.SpanTest{Least: 1}}, api.ErrForm}, {api.TraceQuery{Second: api.SpanTest{Match: many(1, ma(1, "a", ""))}, Limit: 1000}, api.ErrForm}, {api.TraceQuery{Second: wide}, api.ErrForm},
		{first(wide), api.ErrSize}, {below(1, wide), api.ErrSize}, {below(2, wide), api.ErrSize}, {first(api.SpanTest{Match: many(8, ma(1, "a", strings.Repeat("\n", 256)))}), api.ErrSize},
	} {
		wantWrong(t, c.q, c.e)
	}
}

// P15.1: a text of MaxLine bytes may be, one more is too long.
func TestRightSize(t *testing.T) {
	for _, c := range []struct {
		last int
		e    api.Errno
	}{{200, api.OK}, {201, api.ErrSize}} {
		name := strings.Repeat("n", 250)
		q := api.TraceQuery{First: api.SpanTest{Name: name, Match: many(1, ma(1, "a", name))}, Second: api.SpanTest{Name: name, Least: 5000, Match: many(1, ma(2, "a", strings.Repeat("v", c.last)))}, Has: 1, Limit: 100}
		if e := Right(q); e != c.e {
			t.Errorf("Right of %d bytes = %d", len(text(q)), e)
		}
		if s, e := Print(q); e != c.e || e == api.OK && len(s) != api.MaxLine {
			t.Errorf("Print of %d bytes = %d bytes, %d", len(text(q)), len(s), e)
		}
	}
}

// P15.1: Same asks each field.
func TestSame(t *testing.T) {
	full := func() api.TraceQuery {
		one := api.SpanTest{Name: "n", Least: 5, Match: []api.Matcher{ma(1, "a", "1"), ma(2, "b", "2")}}
		two := api.SpanTest{Name: "m", Least: 6, Match: []api.Matcher{ma(3, "c", "3"), ma(4, "d", "4")}}
		return api.TraceQuery{First: one, Second: two, Has: 1, Limit: 7}
	}
	changes := []func(*api.TraceQuery){
		func(q *api.TraceQuery) { q.Has++ }, func(q *api.TraceQuery) { q.Limit++ }, func(q *api.TraceQuery) { q.First, q.Second = q.Second, q.First },
	}
	for _, of := range []func(*api.TraceQuery) *api.SpanTest{func(q *api.TraceQuery) *api.SpanTest { return &q.First }, func(q *api.TraceQuery) *api.SpanTest { return &q.Second }} {
		for _, change := range []func(*api.SpanTest){
			func(s *api.SpanTest) { s.Name += "x" }, func(s *api.SpanTest) { s.Least++ }, func(s *api.SpanTest) { s.Match = nil }, func(s *api.SpanTest) { s.Match = s.Match[:1] },
			func(s *api.SpanTest) { s.Match[1].Op = 1 }, func(s *api.SpanTest) { s.Match[0].Key = "z" }, func(s *api.SpanTest) { s.Match[1].Value = "" }, func(s *api.SpanTest) { slices.Reverse(s.Match) },
		} {
			changes = append(changes, func(q *api.TraceQuery) { change(of(q)) })
		}
	}
	for i, change := range changes {
		a, b := full(), full()
		if !Same(a, b) {
			t.Fatal("Same of two that are the same")
		}
		change(&b)
		if Same(a, b) || Same(b, a) {
			t.Errorf("Same does not see the change %d", i)
		}
	}
	none := api.SpanTest{Match: []api.Matcher{}}
	if !Same(api.TraceQuery{}, api.TraceQuery{First: none, Second: none}) {
		t.Error("an empty list is not as none")
	}
}
