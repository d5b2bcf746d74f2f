package rewrite

import (
	"math/rand"
	"slices"
	"strconv"
	"testing"

	"belfry/api"
	"belfry/attr"
	"belfry/logq"
	"belfry/metricq"
	"belfry/traceq"
)

var someKeys = []string{"a", "b", "env", "user"}

func anyMatchers(r *rand.Rand, most int) []api.Matcher {
	var l []api.Matcher
	for range r.Intn(most + 1) {
		l = append(l, ma(1+r.Intn(4), someKeys[r.Intn(4)], []string{"", "x", "y", "xy"}[r.Intn(4)]))
	}
	return l
}

func anyView(r *rand.Rand) api.View {
	v := api.View{Owner: "o" + strconv.Itoa(r.Intn(3)), Scope: anyMatchers(r, 2)}
	for range r.Intn(3) {
		v.Hidden = append(v.Hidden, someKeys[r.Intn(4)])
	}
	return v
}

func anyPlan(r *rand.Rand) Plan {
	switch r.Intn(3) {
	case 0:
		s := "up" + attr.MatchText(anyMatchers(r, 2))
		if r.Intn(2) == 0 {
			s = "sum by (" + someKeys[r.Intn(4)] + ") (" + s + ") / rate(down" + attr.MatchText(anyMatchers(r, 2)) + "[5m])"
		}
		l, _, _ := metricq.Parse(s)
		return Plan{Kind: api.KPoint, Metric: l}
	case 1:
		return Plan{Kind: api.KLine, Log: api.LogQuery{Match: anyMatchers(r, 2), Level: r.Intn(3), Tests: append(anyMatchers(r, 1), ma(3, "", "x"))[r.Intn(2):]}}
	}
	q := api.TraceQuery{First: api.SpanTest{Name: []string{"", "up"}[r.Intn(2)], Least: int64(r.Intn(3)), Match: anyMatchers(r, 2)}, Has: r.Intn(3)}
	if q.Has > 0 {
		q.Second = api.SpanTest{Least: int64(r.Intn(3)), Match: anyMatchers(r, 2)}
	}
	return Plan{Kind: api.KSpan, Trace: q}
}

func anyRecord(r *rand.Rand) api.Record {
	x := api.Record{Kind: 1 + r.Intn(3), Name: []string{"up", "down"}[r.Intn(2)], To: int64(r.Intn(5)), Level: r.Intn(4), Text: []string{"x", "y"}[r.Intn(2)]}
	for _, key := range someKeys {
		if v := []string{"", "x", "y", "xy"}[r.Intn(4)]; v != "" {
			x.Attrs = append(x.Attrs, api.Attr{Key: key, Value: v})
		}
	}
	return x
}

// fits tells of each part of a query that asks for records whether one is of these.
func fits(p Plan, x api.Record) []bool {
	switch p.Kind {
	case api.KPoint:
		var l []bool
		for _, i := range metricq.Selects(p.Metric) {
			n := p.Metric[i]
			l = append(l, x.Kind == api.KPoint && x.Name == n.Name && attr.Fits(x.Attrs, n.Match))
		}
		return l
	case api.KLine:
		return []bool{logq.Fits(p.Log, x)}
	}
	l := []bool{traceq.Fits(p.Trace.First, x)}
	if p.Trace.Has != 0 {
		l = append(l, traceq.Fits(p.Trace.Second, x))
	}
	return l
}

// P16.4, P16.5, P16.7, P10: what fits a rewritten query is in the view's scope, and fits the query as the view shows it; what is hidden plays no part.
func TestFitsWithin(t *testing.T) {
	r := rand.New(rand.NewSource(164))
	fit, denied := 0, 0
	for range 30000 {
		p, v, x := anyPlan(r), anyView(r), anyRecord(r)
		l, e := Plans(p, []api.View{v})
		named := slices.ContainsFunc(v.Hidden, func(key string) bool { return slices.Contains(Names(p), key) })
		if named != (e == api.ErrDenied) || !named && e != api.OK {
			t.Fatalf("Plans(%v, %v) = %d", p, v, e)
		}
		if e != api.OK {
			denied++
			continue
		}
		in := attr.Fits(x.Attrs, v.Scope)
		within, plain, seen := fits(l[0], x), fits(p, x), fits(p, Project(v, x))
		for i, is := range within {
			if is != (in && seen[i]) {
				t.Fatalf("%v fits %v within %v: %v, in its scope: %v, and as it is shown: %v", x, p, v, is, in, seen[i])
			}
			if plain[i] != seen[i] {
				t.Fatalf("what %v hides of %v changes whether it fits %v", v, x, p)
			}
			if is {
				fit++
			}
		}
	}
	if fit < 500 || denied < 5000 {
		t.Errorf("%d fit, %d are denied: the test tells little", fit, denied)
	}
}

// hides tells whether a view hides a key that a scope asks for.
func hides(v api.View, scope []api.Matcher) bool {
	return slices.ContainsFunc(scope, func(m api.Matcher) bool { return slices.Contains(v.Hidden, m.Key) })
}

// P16.6: within a view twice is within it once; of two views it plays no part which comes first, and both scopes hold. (A query within a view whose scope asks for a key that the other one, or it itself, hides names that key: P16.1 denies it.)
func TestTwice(t *testing.T) {
	r := rand.New(rand.NewSource(166))
	done := 0
	for range 20000 {
		p, v, w := anyPlan(r), anyView(r), anyView(r)
		once, e := put(p, v)
		if e != api.OK {
			continue
		}
		within, _ := Plans(p, []api.View{v})
		if twice, e := put(within[0], v); hides(v, v.Scope) != (e == api.ErrDenied) || e == api.OK && twice != once {
			t.Fatalf("%v within %v = %s, again %s, %d", p, v, once, twice, e)
		}
		other, e := Plans(p, []api.View{w})
		if e != api.OK || hides(v, w.Scope) || hides(w, v.Scope) {
			continue
		}
		done++
		a, e1 := put(within[0], w)
		b, e2 := put(other[0], v)
		both, _ := attr.Both(v.Scope, w.Scope)
		c, e3 := put(p, api.View{Scope: both})
		if a != b || b != c || e1 != api.OK || e2 != api.OK || e3 != api.OK {
			t.Fatalf("within %v and %v: %s, %s, %s, %d, %d, %d", v, w, a, b, c, e1, e2, e3)
		}
	}
	if done < 1000 {
		t.Errorf("only %d are within two views: the test tells little", done)
	}
}

// P1: plans, views and records of any fields.
func TestAnything(t *testing.T) {
	r := rand.New(rand.NewSource(161))
	text := func() string {
		b := make([]byte, r.Intn(6))
		r.Read(b)
		return []string{string(b), "a", "up", "{}", "spans", "", "x"}[r.Intn(7)]
	}
	matchers := func() []api.Matcher {
		var l []api.Matcher
		for range r.Intn(12) * r.Intn(2) {
			l = append(l, ma(r.Intn(7)-1, text(), text()))
		}
		return l
	}
	for range 20000 {
		p := anyPlan(r)
		if r.Intn(2) == 0 {
			p = Plan{Kind: r.Intn(6) - 1, Log: api.LogQuery{Match: matchers(), Level: r.Intn(30) - 2, Tests: matchers(), Limit: r.Intn(1200) - 2}}
			p.Trace = api.TraceQuery{First: api.SpanTest{Name: text(), Least: r.Int63() >> r.Intn(63), Match: matchers()}, Second: api.SpanTest{Match: matchers()}, Has: r.Intn(5) - 1, Limit: r.Intn(1200) - 2}
			for range r.Intn(4) {
				p.Metric = append(p.Metric, api.Node{Kind: r.Intn(9) - 1, Name: text(), Op: r.Intn(6), V: r.Int63(), Match: matchers(), Range: r.Int63(), By: []string{text()}, A: r.Intn(9) - 4, B: r.Intn(9) - 4})
			}
		}
		v := api.View{Owner: text(), Scope: matchers(), Hidden: []string{text(), text()}[:r.Intn(3)]}
		p.View = v
		s, e := Text(p)
		if (s == "") != (e != api.OK) {
			t.Fatalf("Text(%v) = %q, %d", p, s, e)
		}
		l, why := Plans(p, []api.View{v, v})
		if e != api.OK && why != e || e == api.OK && why != api.OK && why != api.ErrDenied || why == api.OK && len(l) != 2 || why != api.OK && len(l) != 0 {
			t.Fatalf("Plans(%v) = %v, %d", p, l, why)
		}
		if _, key := Key([]Plan{p}); key != e {
			t.Fatalf("Key(%v) = %d, want %d", p, key, e)
		}
		if n := Names(p); !slices.IsSorted(n) || len(slices.Compact(slices.Clone(n))) != len(n) {
			t.Fatalf("Names(%v) = %q", p, n)
		}
		Metric(p.Metric, v)
		Log(p.Log, v)
		Trace(p.Trace, v)
		Project(v, api.Record{Kind: p.Kind, Attrs: []api.Attr{{Key: text(), Value: text()}}})
		Read(r.Intn(6)-1, text())
	}
}
