package search

import (
	"math/rand"
	"slices"
	"strconv"
	"testing"

	"belfry/api"
	"belfry/attr"
	"belfry/logq"
	"belfry/store"
	"belfry/traceq"
)

// seen is a record that the model's sources show, with where it comes from.
type seen struct {
	source, came int
	owner        string
	r            api.Record
}

// modelShown tells what a source shows of a kind, in the store's order; and how many its store has.
func modelShown(l []Source, source, kind int) ([]seen, int) {
	s := l[source]
	var out []seen
	came, held := 0, 0
	for r := range s.Store.All() {
		came++
		if r.Kind != kind {
			continue
		}
		held++
		if attr.Fits(r.Attrs, s.View.Scope) {
			r.Attrs = slices.DeleteFunc(r.Attrs, func(a api.Attr) bool { return slices.Contains(s.View.Hidden, a.Key) })
			out = append(out, seen{source, came, s.Owner, r})
		}
	}
	slices.SortFunc(out, func(a, b seen) int {
		if a.r.T != b.r.T {
			return int(a.r.T - b.r.T)
		}
		return a.came - b.came
	})
	return out, held
}

// modelOrder tells hits in order, as many as are asked for.
func modelOrder(l []seen, limit int) []Hit {
	slices.SortFunc(l, func(a, b seen) int {
		switch {
		case a.r.T != b.r.T:
			return int(b.r.T - a.r.T)
		case a.source != b.source:
			return a.source - b.source
		}
		return a.came - b.came
	})
	var out []Hit
	for i, x := range l {
		if limit == 0 || i < limit {
			out = append(out, Hit{x.owner, x.r})
		}
	}
	return out
}

func modelLines(l []Source, q api.LogQuery, from, to int64) ([]Hit, int) {
	var found []seen
	steps := 0
	for i := range l {
		shown, held := modelShown(l, i, api.KLine)
		steps += held
		for _, x := range shown {
			if x.r.T >= from && x.r.T <= to && logq.Fits(q, x.r) {
				found = append(found, x)
			}
		}
	}
	return modelOrder(found, q.Limit), steps
}

func isChild(a, b api.Record) bool {
	return a.Trace == b.Trace && b.Parent == a.Id
}

// hasUnder tells whether a span, or what stands under it, has a child that passes a test; spans that the way has gone through are not gone through again, and the first one is none of its own.
func hasUnder(shown []seen, first, at int, all bool, test api.SpanTest, been []int) bool {
	for i, x := range shown {
		if i == first || slices.Contains(been, i) || !isChild(shown[at].r, x.r) {
			continue
		}
		if traceq.Fits(test, x.r) || all && hasUnder(shown, first, i, all, test, append(slices.Clone(been), i)) {
			return true
		}
	}
	return false
}

func modelSpans(l []Source, q api.TraceQuery, from, to int64) ([]Hit, int) {
	var found []seen
	steps := 0
	for i := range l {
		shown, held := modelShown(l, i, api.KSpan)
		steps += held
		for at, x := range shown {
			if x.r.T < from || x.r.T > to || !traceq.Fits(q.First, x.r) {
				continue
			}
			if q.Has != 0 {
				steps += len(shown)
			}
			if q.Has == 0 || hasUnder(shown, at, at, q.Has == 1, q.Second, nil) {
				found = append(found, x)
			}
		}
	}
	return modelOrder(found, q.Limit), steps
}

// modelTrace tells a trace: it looks for each next span among all of them.
func modelTrace(l []Source, trace [16]byte) ([]Hit, []int) {
	var hits []Hit
	var depths []int
	for i := range l {
		shown, _ := modelShown(l, i, api.KSpan)
		shown = slices.DeleteFunc(shown, func(x seen) bool { return x.r.Trace != trace })
		told := make([]bool, len(shown))
		var tell func(at, depth int)
		tell = func(at, depth int) {
			told[at] = true
			hits, depths = append(hits, Hit{shown[at].owner, shown[at].r}), append(depths, depth)
			for j, x := range shown {
				if !told[j] && isChild(shown[at].r, x.r) {
					tell(j, depth+1)
				}
			}
		}
		for at, x := range shown {
			if !slices.ContainsFunc(shown, func(y seen) bool { return isChild(y.r, x.r) }) {
				tell(at, 0)
			}
		}
		for at := range shown {
			if !told[at] {
				tell(at, 0)
			}
		}
	}
	return hits, depths
}

func anyStore(t *testing.T, r *rand.Rand) *store.Store {
	s := store.New(100)
	for range r.Intn(60) {
		x := api.Record{Kind: []int{api.KPoint, api.KLine, api.KLine, api.KSpan, api.KSpan, api.KSpan}[r.Intn(6)], T: int64(r.Intn(8)), Level: r.Intn(3), Trace: [16]byte{byte(r.Intn(9) / 8)}, Id: [8]byte{byte(r.Intn(12))}, Parent: [8]byte{byte(r.Intn(12))}}
		x.To = x.T + int64(r.Intn(9)) - 1
		x.Text, x.Name = []string{"x", "y", "xy"}[r.Intn(3)], []string{"GET", "query"}[r.Intn(2)]
		x.Attrs = set(t, []string{`{}`, `{a="1"}`, `{a="2", user="ann"}`, `{a="1", user="bob"}`, `{user="ann"}`}[r.Intn(5)])
		s.Put(x) // it may be there already
	}
	return s
}

var someMatchers = []string{"{}", "{}", "{}", "{}", `{a="1"}`, `{a!="1"}`, `{user=""}`, `{user=~"n"}`, `{a="1", user!="bob"}`}

func anyMatchers(t *testing.T, r *rand.Rand) []api.Matcher {
	return match(t, someMatchers[r.Intn(len(someMatchers))])
}

func anySources(t *testing.T, r *rand.Rand, stores []*store.Store) []Source {
	var l []Source
	for i := range r.Intn(5) {
		v := api.View{Owner: "any", Scope: anyMatchers(t, r), Hidden: [][]string{nil, nil, {"user"}, {"a"}, {"a", "user"}}[r.Intn(5)]}
		l = append(l, Source{"o" + strconv.Itoa(i), stores[r.Intn(len(stores))], v})
	}
	return l
}

func anyTest(t *testing.T, r *rand.Rand) api.SpanTest {
	return api.SpanTest{Name: []string{"", "", "GET", "query"}[r.Intn(4)], Least: int64(max(0, r.Intn(7)-3)), Match: anyMatchers(t, r)}
}

func alike(a, b Hit) bool {
	return a.Owner == b.Owner && slices.Equal(a.R.Attrs, b.R.Attrs) && a.R.Kind == b.R.Kind && a.R.Name == b.R.Name && a.R.T == b.R.T && a.R.To == b.R.To && a.R.V == b.R.V &&
		a.R.Level == b.R.Level && a.R.Text == b.R.Text && a.R.Trace == b.R.Trace && a.R.Id == b.R.Id && a.R.Parent == b.R.Parent
}

// finder asks either of lines or of spans, of some sources, some time, with a limit, within a budget.
type finder func(l []Source, from, to int64, limit, budget int) ([]Hit, int, api.Errno)

// P18.1, P18.2, P18.4: whatever is asked, the answer is the model's.
func TestAsTheModel(t *testing.T) {
	lines, spans, under, deep := 0, 0, 0, 0
	for seed := range int64(4000) {
		r := rand.New(rand.NewSource(seed))
		l := anySources(t, r, []*store.Store{anyStore(t, r), anyStore(t, r), nil})
		from := int64(r.Intn(4))
		to := from + int64(r.Intn(8))
		q := api.LogQuery{Match: anyMatchers(t, r), Level: r.Intn(3), Limit: max(0, r.Intn(10)-5)}
		if r.Intn(2) == 0 {
			q.Tests = []api.Matcher{{Op: api.MHas, Value: "x"}, {Op: api.MNe, Key: "a", Value: "2"}}[r.Intn(2):]
		}
		want, steps := modelLines(l, q, from, to)
		check(t, want, steps, l, from, to, q.Limit, func(l []Source, from, to int64, limit, budget int) ([]Hit, int, api.Errno) {
			q := q
			q.Limit = limit
			return Lines(l, q, from, to, budget)
		})
		lines += len(want)
		w := api.TraceQuery{First: anyTest(t, r), Has: r.Intn(3), Limit: max(0, r.Intn(10)-5)}
		if w.Has > 0 {
			w.Second = anyTest(t, r)
		}
		want, steps = modelSpans(l, w, from, to)
		check(t, want, steps, l, from, to, w.Limit, func(l []Source, from, to int64, limit, budget int) ([]Hit, int, api.Errno) {
			w := w
			w.Limit = limit
			return Spans(l, w, from, to, budget)
		})
		spans += len(want)
		under += min(w.Has, 1) * len(want)
		hits, depths := Trace(l, [16]byte{byte(seed % 8 / 7)})
		want, levels := modelTrace(l, [16]byte{byte(seed % 8 / 7)})
		if !slices.EqualFunc(hits, want, alike) || !slices.Equal(depths, levels) {
			t.Fatalf("Trace = %q %v, want %q %v", Text(hits), depths, Text(want), levels)
		}
		if len(levels) > 0 && slices.Max(levels) > 2 {
			deep++
		}
	}
	if lines < 2000 || spans < 2000 || under < 500 || deep < 500 {
		t.Errorf("%d lines, %d spans, %d with others under them, %d deep traces: the test tells little", lines, spans, under, deep)
	}
}

// check holds an answer to the model's, within budgets; and to what follows.
func check(t *testing.T, want []Hit, steps int, l []Source, from, to int64, limit int, find finder) {
	t.Helper()
	hits, n, e := find(l, from, to, limit, api.MaxSteps)
	if e != api.OK || n != steps || !slices.EqualFunc(hits, want, alike) {
		t.Fatalf("%q, %d, %d, want %q, %d", Text(hits), n, e, Text(want), steps)
	}
	for _, budget := range []int{1, max(1, steps-1), max(1, steps), steps + 1} {
		got, m, e := find(l, from, to, limit, budget)
		switch {
		case budget < steps && (e != api.ErrBudget || m != 0 || got != nil):
			t.Fatalf("within %d steps of %d: %q, %d, %d", budget, steps, Text(got), m, e)
		case budget >= steps && (e != api.OK || m != n || !slices.EqualFunc(got, hits, alike)): // P18.8
			t.Fatalf("within %d steps of %d: %q, %d, %d, want %q", budget, steps, Text(got), m, e, Text(hits))
		}
	}
	all, _, _ := find(l, from, to, 0, api.MaxSteps)
	if limit > 0 && (len(hits) != min(limit, len(all)) || !slices.EqualFunc(hits, all[:len(hits)], alike)) { // P18.7
		t.Fatalf("%q with a limit, %q without", Text(hits), Text(all))
	}
	late, _, _ := find(l, min(to, from+2), to, 0, api.MaxSteps)
	early, _, _ := find(l, from, min(to, from+2)-1, 0, api.MaxSteps)
	if !slices.EqualFunc(slices.Concat(late, early), all, alike) { // P18.6: of two times
		t.Fatalf("%q and %q, and of both times %q", Text(late), Text(early), Text(all))
	}
	checkSources(t, l, from, to, all, find)
}

// P18.5, P18.6: a source more adds its hits alone, which are in its scope, and have no hidden key.
func checkSources(t *testing.T, l []Source, from, to int64, all []Hit, find finder) {
	t.Helper()
	for i, s := range l {
		mine, _, _ := find([]Source{s}, from, to, 0, api.MaxSteps)
		others, _, _ := find(slices.Concat(l[:i], l[i+1:]), from, to, 0, api.MaxSteps)
		left := slices.DeleteFunc(slices.Clone(all), func(h Hit) bool { return h.Owner == s.Owner })
		if !slices.EqualFunc(left, others, alike) || len(mine)+len(others) != len(all) {
			t.Fatalf("%q of one, %q of the others, %q of all", Text(mine), Text(others), Text(all))
		}
		for _, h := range mine {
			for _, key := range s.View.Hidden {
				if _, is := attr.Get(h.R.Attrs, key); is {
					t.Fatalf("%q has the key %s, which is hidden", Text(mine), key)
				}
			}
			scope := slices.DeleteFunc(slices.Clone(s.View.Scope), func(m api.Matcher) bool { return slices.Contains(s.View.Hidden, m.Key) })
			if !attr.Fits(h.R.Attrs, scope) {
				t.Fatalf("%q is not in the scope %v", Text(mine), scope)
			}
		}
	}
}

// P1: searches of the greatest stores end soon, within their budget and beyond.
func TestGreatest(t *testing.T) {
	s := store.New(api.MaxStore)
	for n := range api.MaxStore {
		x := api.Record{Kind: api.KLine, T: int64(n)}
		if n%2 == 0 {
			x = api.Record{Kind: api.KSpan, T: int64(n), To: int64(n), Id: [8]byte{byte(n), byte(n >> 8), 1}, Parent: [8]byte{byte(n - 2), byte((n - 2) >> 8), 1}}
		}
		s.Put(x)
	}
	ten := slices.Repeat([]Source{{Store: s}}, 10)
	if hits, n, e := Lines(ten, api.LogQuery{}, 0, api.MaxStore, api.MaxSteps); e != api.OK || n != api.MaxSteps || len(hits) != 1000 {
		t.Errorf("Lines = %d, %d, %d", len(hits), n, e)
	}
	if hits, n, e := Spans(ten[:1], api.TraceQuery{Has: 1}, 2, 18, api.MaxSteps); e != api.OK || n != 10000+9*10000 || len(hits) != 9 {
		t.Errorf("Spans = %d, %d, %d", len(hits), n, e)
	}
	for _, l := range [][]Source{ten, slices.Repeat(ten, 1000)} {
		if _, _, e := Spans(l, api.TraceQuery{Has: 1}, 0, api.MaxStore, api.MaxSteps); e != api.ErrBudget {
			t.Errorf("Spans of %d sources = %d", len(l), e)
		}
	}
	if _, _, e := Lines(slices.Repeat(ten, 1000), api.LogQuery{}, 0, 9, api.MaxSteps); e != api.ErrBudget {
		t.Errorf("Lines of many sources = %d", e)
	}
}
