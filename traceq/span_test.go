package traceq

import (
	"math"
	"math/rand"
	"slices"
	"testing"

	"belfry/api"
)

// P15.3: what passes a test, and what does not.
func TestFits(t *testing.T) {
	r := api.Record{Kind: api.KSpan, Name: "GET", T: 10, To: 15, Attrs: []api.Attr{{Key: "env", Value: "prod"}, {Key: "user", Value: "bob"}}}
	for _, c := range []struct {
		s    string
		want bool
	}{
		{`spans`, true}, {`spans named "GET"`, true}, {`spans named "GE"`, false}, {`spans named "get"`, false}, {`spans named "GETS"`, false},
		{`spans least 1ns`, true}, {`spans least 4ns`, true}, {`spans least 5ns`, true}, {`spans least 6ns`, false}, {`spans least 1us`, false},
		{`spans {env="prod"}`, true}, {`spans {env="test"}`, false}, {`spans {env!="test", user=~"o"}`, true}, {`spans {env="prod", user="ann"}`, false}, {`spans {a=""}`, true}, {`spans {a!=""}`, false}, {`spans {name="GET"}`, false},
		{`spans named "GET" least 5ns {env="prod"}`, true}, {`spans named "PUT" least 5ns {env="prod"}`, false}, {`spans named "GET" least 6ns {env="prod"}`, false}, {`spans named "GET" least 5ns {env="x"}`, false},
	} {
		q, e, _ := Parse(c.s)
		if e != api.OK {
			t.Fatalf("Parse(%q) = %d", c.s, e)
		}
		if got := Fits(q.First, r); got != c.want {
			t.Errorf("%s fits: %v", c.s, got)
		}
	}
}

// P15.3: what is no span passes nothing.
func TestFitsKinds(t *testing.T) {
	for _, kind := range []int{0, api.KPoint, api.KLine, 4, -1, math.MaxInt} {
		if Fits(api.SpanTest{}, api.Record{Kind: kind}) {
			t.Errorf("a record of the kind %d fits", kind)
		}
	}
	if !Fits(api.SpanTest{}, api.Record{Kind: api.KSpan}) {
		t.Error("a span does not fit")
	}
}

// P15.3: how long a span takes, at the edges of numbers: one that ends ahead of its beginning passes none, a Least below 0 is as 0.
func TestFitsTimes(t *testing.T) {
	for _, c := range []struct {
		from, to, least int64
		want            bool
	}{
		{5, 5, 0, true}, {5, 5, 1, false}, {5, 4, 0, false}, {5, 4, -1, false}, {5, 4, -5, false}, {5, 4, math.MinInt64, false}, {5, 5, -1, true}, {5, 5, math.MinInt64, true},
		{0, math.MaxInt64, math.MaxInt64, true}, {1, math.MaxInt64, math.MaxInt64, false}, {-1, math.MaxInt64, math.MaxInt64, true}, {math.MinInt64, math.MaxInt64, math.MaxInt64, true}, {math.MinInt64, math.MaxInt64, 0, true}, {math.MinInt64, -1, math.MaxInt64, true}, {math.MinInt64, -2, math.MaxInt64, false}, {math.MinInt64, 0, math.MaxInt64, true},
		{math.MaxInt64, math.MinInt64, 0, false}, {math.MaxInt64, math.MinInt64, -1, false}, {1, math.MinInt64, math.MinInt64, false}, {math.MaxInt64, math.MaxInt64, 0, true}, {math.MinInt64, math.MinInt64, 0, true}, {math.MinInt64, math.MinInt64, 1, false}, {-10, -5, 5, true}, {-10, -5, 6, false}, {-5, 5, 10, true}, {-5, 5, 11, false},
	} {
		if got := Fits(api.SpanTest{Least: c.least}, api.Record{Kind: api.KSpan, T: c.from, To: c.to}); got != c.want {
			t.Errorf("from %d to %d takes at least %d: %v", c.from, c.to, c.least, got)
		}
	}
}

// P15.3: tests that can not be, by the same words.
func TestFitsWrong(t *testing.T) {
	r := api.Record{Kind: api.KSpan, Name: "\xff", To: 5, Attrs: []api.Attr{{Key: "k", Value: "v"}}}
	for _, c := range []struct {
		t    api.SpanTest
		want bool
	}{
		{api.SpanTest{Name: "\xff"}, true}, {api.SpanTest{Name: "\xfe"}, false}, {api.SpanTest{Match: many(9, ma(1, "k", "v"))}, true}, {api.SpanTest{Match: many(1, ma(0, "k", "v"))}, false}, {api.SpanTest{Match: many(1, ma(5, "k", "v"))}, false}, {api.SpanTest{Match: many(1, ma(1, "", ""))}, true}, {api.SpanTest{Match: append(many(9, ma(1, "k", "v")), ma(2, "k", "v"))}, false},
	} {
		if got := Fits(c.t, r); got != c.want {
			t.Errorf("%v fits: %v", c.t, got)
		}
	}
}

// P15.6: a test more in Match, a greater Least, lets no span more pass.
func TestNoneMore(t *testing.T) {
	r := rand.New(rand.NewSource(156))
	passed := 0
	for range 50000 {
		a := anyTest(r)
		if a.Least > 0 {
			a.Least = int64(r.Intn(5))
		}
		s := api.Record{Kind: api.KSpan, Name: []string{"GET", "x", ""}[r.Intn(3)], T: int64(r.Intn(4)), To: int64(r.Intn(8))}
		for _, key := range []string{"a", "b.c", "limit"} {
			if v := []string{"", "x", "}x"}[r.Intn(3)]; v != "" {
				s.Attrs = append(s.Attrs, api.Attr{Key: key, Value: v})
			}
		}
		b := a
		b.Least += int64(r.Intn(3))
		b.Match = append(slices.Clone(a.Match), anyTest(r).Match...)
		if Fits(b, s) && !Fits(a, s) {
			t.Fatalf("%v passes %v, and not %v", s, b, a)
		}
		if Fits(b, s) {
			passed++
		}
	}
	if passed < 1000 {
		t.Errorf("only %d spans pass: the test tells little", passed)
	}
}

// span is one of a trace.
func span(trace, id, parent byte) api.Record {
	return api.Record{Kind: api.KSpan, Trace: [16]byte{15: trace}, Id: [8]byte{7: id}, Parent: [8]byte{7: parent}}
}

// P15.3: children and descendants, rising; of the same trace alone; of circles; a span is not its own.
func TestUnder(t *testing.T) {
	tree := []api.Record{span(1, 4, 2), span(1, 1, 0), span(1, 3, 1), span(1, 2, 1), span(1, 5, 4), span(2, 6, 1), span(1, 7, 9)}
	circle := []api.Record{span(1, 1, 3), span(1, 2, 1), span(1, 3, 2), span(1, 4, 2)}
	own := []api.Record{span(1, 1, 1), span(1, 2, 1), span(1, 1, 1), span(1, 3, 2)}
	mixed := []api.Record{span(1, 1, 0), span(1, 2, 1), span(1, 3, 2), span(1, 4, 1)}
	mixed[1].Kind = api.KLine
	none := []api.Record{span(0, 0, 0), span(0, 0, 0), span(0, 5, 0), span(0, 6, 5)}
	for _, c := range []struct {
		l             []api.Record
		i             int
		children, all []int
	}{
		{tree, 0, []int{4}, []int{4}}, {tree, 1, []int{2, 3}, []int{0, 2, 3, 4}}, {tree, 2, nil, nil}, {tree, 3, []int{0}, []int{0, 4}}, {tree, 4, nil, nil}, {tree, 5, nil, nil}, {tree, 6, nil, nil},
		{tree, -1, nil, nil}, {tree, 7, nil, nil}, {tree, math.MinInt, nil, nil}, {tree, math.MaxInt, nil, nil}, {nil, 0, nil, nil}, {[]api.Record{}, 0, nil, nil}, {nil, -1, nil, nil},
		{circle, 0, []int{1}, []int{1, 2, 3}}, {circle, 1, []int{2, 3}, []int{0, 2, 3}}, {circle, 2, []int{0}, []int{0, 1, 3}}, {circle, 3, nil, nil},
		{own, 0, []int{1, 2}, []int{1, 2, 3}}, {own, 1, []int{3}, []int{3}}, {own, 2, []int{0, 1}, []int{0, 1, 3}}, {own, 3, nil, nil},
		{mixed, 0, []int{3}, []int{3}}, {mixed, 1, nil, nil}, {mixed, 2, nil, nil},
		{none, 0, []int{1, 2}, []int{1, 2, 3}}, {none, 2, []int{3}, []int{3}},
	} {
		if got := Under(c.l, c.i, false); !slices.Equal(got, c.children) {
			t.Errorf("the children of %d: %v, want %v", c.i, got, c.children)
		}
		if got := Under(c.l, c.i, true); !slices.Equal(got, c.all) {
			t.Errorf("the descendants of %d: %v, want %v", c.i, got, c.all)
		}
	}
}

// Every byte of a trace, an Id and a Parent plays its part.
func TestUnderBytes(t *testing.T) {
	top, low := span(1, 1, 9), span(1, 2, 1)
	for i := range 16 {
		other := low
		other.Trace[i] ^= 0x80
		if u := Under([]api.Record{top, other}, 0, true); len(u) != 0 {
			t.Errorf("the byte %d of a trace plays no part", i)
		}
	}
	for i := range 8 {
		other := low
		other.Parent[i] ^= 0x80
		if u := Under([]api.Record{top, other}, 0, false); len(u) != 0 {
			t.Errorf("the byte %d of a Parent plays no part", i)
		}
	}
	if u := Under([]api.Record{top, low}, 0, false); !slices.Equal(u, []int{1}) {
		t.Errorf("Under = %v", u)
	}
}

// isChild is the chapter's word.
func isChild(l []api.Record, i, j int) bool {
	return l[i].Kind == api.KSpan && l[j].Kind == api.KSpan && l[i].Trace == l[j].Trace && l[j].Parent == l[i].Id
}

// modelUnder finds children, or descendants, by looking at each two records until nothing more is found.
func modelUnder(l []api.Record, i int, all bool) []int {
	under := make([]bool, len(l))
	for grown := true; grown; {
		grown = false
		for j := range l {
			for k := range l {
				if !under[k] && isChild(l, j, k) && (j == i || all && under[j]) {
					under[k], grown = true, true
				}
			}
		}
	}
	var out []int
	for k, is := range under {
		if is && k != i {
			out = append(out, k)
		}
	}
	return out
}

// P15.3, P15.5: lists of few Ids, against the model; children are descendants, and those of a descendant are descendants, or the span itself.
func TestUnderByModel(t *testing.T) {
	r := rand.New(rand.NewSource(155))
	deep := 0
	for range 5000 {
		l := make([]api.Record, 1+r.Intn(9))
		for k := range l {
			l[k] = span(byte(r.Intn(2)), byte(r.Intn(7)), byte(r.Intn(7)))
			if r.Intn(8) == 0 {
				l[k].Kind = r.Intn(5)
			}
		}
		for i := range l {
			children, all := Under(l, i, false), Under(l, i, true)
			if !slices.Equal(children, modelUnder(l, i, false)) || !slices.Equal(all, modelUnder(l, i, true)) {
				t.Fatalf("under %d of %v: %v, %v", i, l, children, all)
			}
			for _, c := range children {
				if !slices.Contains(all, c) {
					t.Fatalf("a child of %d of %v is no descendant", i, l)
				}
			}
			for _, d := range all {
				for _, x := range Under(l, d, true) {
					if x != i && !slices.Contains(all, x) {
						t.Fatalf("a descendant of a descendant of %d of %v is none", i, l)
					}
				}
			}
			if len(all) > len(children)+1 {
				deep++
			}
		}
	}
	if deep < 500 {
		t.Errorf("only %d are deep: the test tells little", deep)
	}
}

// P1: as many spans as a store may have end soon: in a row, all with one Id, in a circle.
func TestUnderMany(t *testing.T) {
	row := make([]api.Record, api.MaxStore)
	for i := range row {
		row[i] = span(1, 0, 0)
		row[i].Id = [8]byte{byte(i >> 8), byte(i)}
		row[i].Parent = [8]byte{byte((i - 1) >> 8), byte(i - 1)}
	}
	same := slices.Repeat([]api.Record{span(1, 1, 1)}, api.MaxStore)
	circle := slices.Clone(row)
	circle[0].Parent = row[api.MaxStore-1].Id
	for _, l := range [][]api.Record{row, same, circle} {
		if n := len(Under(l, 0, true)); n != api.MaxStore-1 {
			t.Errorf("%d are under the first", n)
		}
	}
	if n := len(Under(row, 19000, true)); n != 999 {
		t.Errorf("%d are under one in the row", n)
	}
}

// Nothing that is handed in is changed, and no answers share memory.
func TestUnderMemory(t *testing.T) {
	l := []api.Record{span(1, 1, 0), span(1, 2, 1), span(1, 3, 1), span(1, 4, 2)}
	a, b := Under(l, 0, true), Under(l, 0, true)
	a[0] = 99
	_ = append(a, 7)
	if !slices.Equal(b, []int{1, 2, 3}) || !slices.Equal(Under(l, 0, true), b) || l[1].Id != [8]byte{7: 2} {
		t.Error("an answer is seen in another one")
	}
}
