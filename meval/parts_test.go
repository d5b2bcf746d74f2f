package meval

import (
	"math"
	"math/big"
	"math/rand"
	"slices"
	"strconv"
	"strings"
	"testing"

	"belfry/api"
	"belfry/fixed"
)

func records(l ...int64) []api.Record {
	var out []api.Record
	for i, v := range l {
		out = append(out, api.Record{Kind: i % 5, T: int64(-i), V: v}) // of any kind, at any time
	}
	return out
}

// P17.2: Rate, at ordinary numbers, at edges, of what can not be.
func TestRate(t *testing.T) {
	const second, top = 1000000000, fixed.Top
	for _, c := range []struct {
		l    []int64
		span int64
		want int64
		ok   bool
	}{
		{nil, second, 0, false}, {[]int64{5}, second, 0, false}, {[]int64{5, 6}, 0, 0, false}, {[]int64{5, 6}, -1, 0, false}, {[]int64{5, 6}, math.MinInt64, 0, false}, {[]int64{5}, 0, 0, false},
		{[]int64{5, 6}, second, 1, true}, {[]int64{5, 5}, second, 0, true}, {[]int64{6, 5}, second, 5, true}, {[]int64{1, 3, 2}, second, 4, true}, {[]int64{0, 10, 3, 3, 4}, second, 14, true},
		{[]int64{0, 9}, 2 * second, 4, true}, {[]int64{0, 9}, second / 2, 18, true}, {[]int64{0, 9}, 3600 * second, 0, true}, {[]int64{0, 7200}, 3600 * second, 2, true},
		{[]int64{0, 9}, 1000, 9000000, true}, {[]int64{0, 9}, 1999, 9000000, true}, {[]int64{0, 9}, 2000, 4500000, true}, {[]int64{0, 9}, 999, 9000000, true}, {[]int64{0, 9}, 1, 9000000, true},
		{[]int64{0, -9}, second, -9, true}, {[]int64{-9, -5}, second, 4, true}, {[]int64{-5, -9, -8}, second, -8, true}, {[]int64{5, -9, 4}, second, 4, true},
		{[]int64{-top, top}, second, top, true}, {[]int64{0, top, 0, top}, second, top, true}, {[]int64{0, top}, 1, top, true}, {[]int64{0, 5}, math.MaxInt64, 0, true}, {[]int64{0, top}, math.MaxInt64, 1000000000, true},
		{[]int64{0, math.MinInt64}, second, -top, true}, {[]int64{math.MinInt64, 0}, second, top, true}, {[]int64{math.MinInt64, -top}, second, 0, true}, {[]int64{-top, math.MinInt64}, second, 0, true}, {[]int64{0, math.MinInt64, math.MinInt64, 1}, second, 0, true},
		{[]int64{0, top, -top, 5}, second, top, true},
	} {
		if v, ok := Rate(records(c.l...), c.span); v != c.want || ok != c.ok {
			t.Errorf("Rate(%v, %d) = %d, %v, want %d, %v", c.l, c.span, v, ok, c.want, c.ok)
		}
	}
}

// P17.2: Delta, of none, of one, of more; what lies between plays no part.
func TestDelta(t *testing.T) {
	const top = fixed.Top
	for _, c := range []struct {
		l    []int64
		want int64
		ok   bool
	}{
		{nil, 0, false}, {[]int64{}, 0, false}, {[]int64{7}, 0, true}, {[]int64{7, 9}, 2, true}, {[]int64{9, 7}, -2, true}, {[]int64{1, 50, -50, 4}, 3, true},
		{[]int64{-top, top}, top, true}, {[]int64{top, -top}, -top, true}, {[]int64{math.MinInt64}, 0, true}, {[]int64{math.MinInt64, -top}, 0, true}, {[]int64{-top, math.MinInt64}, 0, true}, {[]int64{0, math.MinInt64}, -top, true}, {[]int64{math.MinInt64, 0}, top, true},
	} {
		if v, ok := Delta(records(c.l...)); v != c.want || ok != c.ok {
			t.Errorf("Delta(%v) = %d, %v, want %d, %v", c.l, v, ok, c.want, c.ok)
		}
	}
}

func points(t *testing.T, l ...any) []api.Point {
	t.Helper()
	var out []api.Point
	for i := 0; i < len(l); i += 2 {
		out = append(out, api.Point{Attrs: set(t, l[i].(string)), V: int64(l[i+1].(int))})
	}
	return out
}

// P17.2: each aggregate, by no keys, by one, by several, in any order of both.
func TestAgg(t *testing.T) {
	l := points(t, `{b="2"}`, 3000000, `{a="1", b="1"}`, 5000000, `{a="1", b="2"}`, -2000000, `{}`, 4000000, `{a="0", c="1"}`, 500000, `{a="1", c="1"}`, 5000000)
	for _, c := range []struct {
		name, by, want string
	}{
		{"sum", "", "{} 15.5"}, {"min", "", "{} -2"}, {"max", "", "{} 5"}, {"avg", "", "{} 2.583333"}, {"count", "", "{} 6"},
		{"sum", "a", `{} 7 {a="0"} 0.5 {a="1"} 8`}, {"min", "a", `{} 3 {a="0"} 0.5 {a="1"} -2`}, {"max", "a", `{} 4 {a="0"} 0.5 {a="1"} 5`}, {"avg", "a", `{} 3.5 {a="0"} 0.5 {a="1"} 2.666666`}, {"count", "a", `{} 2 {a="0"} 1 {a="1"} 3`},
		{"sum", "b a", `{} 4 {a="0"} 0.5 {a="1"} 5 {a="1", b="1"} 5 {a="1", b="2"} -2 {b="2"} 3`}, {"sum", "a b", `{} 4 {a="0"} 0.5 {a="1"} 5 {a="1", b="1"} 5 {a="1", b="2"} -2 {b="2"} 3`}, {"sum", "b b a b", `{} 4 {a="0"} 0.5 {a="1"} 5 {a="1", b="1"} 5 {a="1", b="2"} -2 {b="2"} 3`},
		{"count", "none", "{} 6"}, {"count", "c none", `{} 4 {c="1"} 2`},
	} {
		got, e := Agg(c.name, strings.Fields(c.by), l...)
		text := strings.TrimSpace(strings.ReplaceAll(Text(Value{L: got}), "\n", " "))
		if e != api.OK || text != c.want {
			t.Errorf("%s by %s = %s, %d, want %s", c.name, c.by, text, e, c.want)
		}
	}
}

// P17.2: ErrOp of another name, with points and without; of no points none.
func TestAggNames(t *testing.T) {
	for _, name := range []string{"", "Sum", "sum ", "summ", "su", "rate", "delta", "last", "by", "median", "\xff", strings.Repeat("sum", 1000)} {
		for _, l := range [][]api.Point{nil, {{V: 1}}} {
			if got, e := Agg(name, nil, l...); e != api.ErrOp || len(got) != 0 {
				t.Errorf("Agg(%q, %v) = %v, %d", name, l, got, e)
			}
		}
	}
	for _, name := range []string{"sum", "min", "max", "avg", "count"} {
		if got, e := Agg(name, []string{"a"}); e != api.OK || len(got) != 0 {
			t.Errorf("%s of none = %v, %d", name, got, e)
		}
	}
}

// handed tells a list's points in each order in which they can be handed in.
func handed(l []api.Point) [][]api.Point {
	if len(l) < 2 {
		return [][]api.Point{l}
	}
	var out [][]api.Point
	for i := range l {
		for _, others := range handed(slices.Concat(l[:i], l[i+1:])) {
			out = append(out, append([]api.Point{l[i]}, others...))
		}
	}
	return out
}

// sameHowever holds an aggregate by no keys to one number, in whatever order its points are handed in.
func sameHowever(t *testing.T, name string, l []api.Point, want int64) {
	t.Helper()
	for _, l := range handed(l) {
		if got, e := Agg(name, nil, l...); e != api.OK || len(got) != 1 || got[0].V != want || len(got[0].Attrs) != 0 {
			t.Errorf("%s(%v) = %v, %d, want %d", name, l, got, e, want)
		}
	}
}

// P17.2: sums go through points in order of their attributes, and meet bounds; the least whole number is -Top.
func TestAggEdges(t *testing.T) {
	const top = fixed.Top
	for _, c := range []struct {
		name string
		l    []int64 // in order of the points' attributes
		want int64
	}{
		{"sum", []int64{top, 5, -5}, top - 5}, {"sum", []int64{5, -5, top}, top}, {"sum", []int64{-5, top, 5}, top}, {"sum", []int64{top, top, -top}, 0}, {"sum", []int64{-top, top, top}, top}, {"sum", []int64{-top, -top, top, 5}, 5}, {"sum", []int64{math.MinInt64}, -top},
		{"min", []int64{3, math.MinInt64, -top}, -top}, {"min", []int64{math.MinInt64}, -top}, {"max", []int64{math.MinInt64}, -top}, {"max", []int64{math.MinInt64, -top}, -top}, {"min", []int64{top, 7, 9}, 7}, {"max", []int64{-7, -9, -8}, -7}, {"max", []int64{1, top}, top},
		{"avg", []int64{top, 6, -6}, (top - 6) / 3}, {"avg", []int64{-6, 6, top}, top / 3}, {"avg", []int64{top, top}, top / 2}, {"avg", []int64{1, 2}, 1}, {"avg", []int64{-1, -2}, -1}, {"avg", []int64{math.MinInt64}, -top}, {"avg", []int64{5}, 5},
		{"count", []int64{math.MinInt64, top, 0}, 3 * api.One},
	} {
		var l []api.Point
		for i, v := range c.l {
			l = append(l, api.Point{Attrs: []api.Attr{{Key: "k", Value: string(rune('a' + i))}}, V: v})
		}
		sameHowever(t, c.name, l, c.want)
	}
}

// P17.2: of points with the same attributes it is the number that tells which comes first; one without attributes comes ahead of all others.
func TestAggOrderOfNumbers(t *testing.T) {
	const top = fixed.Top
	sameHowever(t, "sum", []api.Point{{V: top}, {V: api.One}, {V: -api.One}}, top)
	sameHowever(t, "avg", []api.Point{{V: top}, {V: api.One}, {V: -api.One}}, top/3)
	sameHowever(t, "sum", []api.Point{{V: -top}, {V: api.One}, {V: -api.One}}, api.One-top)
	sameHowever(t, "sum", points(t, `{a="1"}`, top, `{a="1"}`, 9, `{a="1"}`, -9), top)
	sameHowever(t, "sum", points(t, `{a="1"}`, -9, `{}`, top, `{}`, 9), top-9)
	sameHowever(t, "avg", points(t, `{a="1"}`, -9, `{}`, top, `{}`, 9), (top-9)/3)
	sameHowever(t, "sum", points(t, `{a="2"}`, -9, `{a="1", b="1"}`, 9, `{a="1"}`, top), top-9)
	sameHowever(t, "sum", points(t, `{a="1", b="2"}`, -9, `{b="1"}`, top, `{b="1"}`, 9), top)
}

// P17.2: of many points, too, each group is summed in order of the whole points: by all of their attributes, then by their numbers.
func TestAggOrder(t *testing.T) {
	r := rand.New(rand.NewSource(172))
	moved := 0
	for range 200 {
		var l []api.Point
		for range 60 {
			attrs := `{a="` + strconv.Itoa(r.Intn(3)) + `", b="` + strconv.Itoa(r.Intn(4)) + `"}`
			l = append(l, api.Point{Attrs: set(t, attrs), V: []int64{fixed.Top, -fixed.Top, fixed.Top / 2, -fixed.Top / 2, 1, -5}[r.Intn(6)]})
		}
		sums, came := groupSums(inOrder(l)), groupSums(l)
		got, e := Agg("sum", []string{"a"}, l...)
		if e != api.OK || len(got) != 3 {
			t.Fatalf("Agg = %v, %d", got, e)
		}
		for i, p := range got {
			if p.V != sums[i] {
				t.Fatalf("the sum of the group %d is %d, want %d", i, p.V, sums[i])
			}
			if sums[i] != came[i] {
				moved++
			}
		}
	}
	if moved < 100 {
		t.Errorf("%d sums hang on the order: the test tells little", moved)
	}
}

// groupSums sums points by the value of a, a digit, as they stand.
func groupSums(l []api.Point) [3]int64 {
	var out [3]int64
	for _, p := range l {
		i := p.Attrs[0].Value[0] - '0'
		out[i] = fixed.Add(out[i], p.V)
	}
	return out
}

// inOrder tells points in order, each put ahead of the first one that it does not follow.
func inOrder(l []api.Point) []api.Point {
	var out []api.Point
	for _, p := range l {
		at := slices.IndexFunc(out, func(o api.Point) bool {
			return cmpDots(dot{p.Attrs, big.NewInt(p.V)}, dot{o.Attrs, big.NewInt(o.V)}) < 0
		})
		if at < 0 {
			at = len(out)
		}
		out = slices.Insert(out, at, p)
	}
	return out
}

// P17.2, P1: attributes that are no sets, keys that can not be.
func TestAggWrong(t *testing.T) {
	l := []api.Point{
		{Attrs: []api.Attr{{Key: "b", Value: "1"}, {Key: "a", Value: "2"}, {Key: "b", Value: "3"}, {Key: "", Value: ""}}, V: 1},
		{Attrs: []api.Attr{{Key: "a", Value: "2"}, {Key: "b", Value: "1"}}, V: 2},
		{Attrs: []api.Attr{{Key: "\xff", Value: "\xff"}}, V: 4},
	}
	got, e := Agg("sum", []string{"b", "a"}, l...)
	if e != api.OK || Text(Value{L: got}) != "{} 0.000004\n{a=\"2\", b=\"1\"} 0.000003\n" {
		t.Errorf("Agg = %q, %d", Text(Value{L: got}), e)
	}
	got, e = Agg("count", []string{"\xff", "", strings.Repeat("k", 1000)}, l...)
	if e != api.OK || len(got) != 3 || len(got[0].Attrs) != 0 || got[1].Attrs[0] != (api.Attr{}) || got[2].Attrs[0].Value != "\xff" {
		t.Errorf("Agg = %v, %d", got, e)
	}
}

// Rule 4, rule 5: nothing that is handed in is changed, and what is answered is the caller's own.
func TestMemory(t *testing.T) {
	by := []string{"b", "a", "b"}
	l := points(t, `{b="2"}`, 3, `{a="1", b="1"}`, 5, `{b="2"}`, 1, `{a="1", b="1"}`, -5)
	before := Text(Value{L: l})
	first, _ := Agg("sum", by, l...)
	if Text(Value{L: l}) != before || !slices.Equal(by, []string{"b", "a", "b"}) {
		t.Error("Agg changes what is handed in")
	}
	text := Text(Value{L: first})
	spoil(l)
	if Text(Value{L: first}) != text {
		t.Error("what Agg answers shares memory with what was handed in")
	}
	for _, q := range []string{"up", "up + up", "(up)", "-up", "last(up[9ns])", "up + 1", "max by (a) (up)"} {
		s := Source{Owner: "acme", Store: two(t), Query: query(t, q), Hidden: []string{"z"}}
		v, n, _ := Eval([]Source{s, s}, 7, 100)
		text := Text(v)
		spoil(v.L)
		again, m, e := Eval([]Source{s, s}, 7, 100)
		if Text(again) != text || m != n || e != api.OK {
			t.Errorf("%s: %q, and once more %q", q, text, Text(again))
		}
	}
	for _, q := range []string{"up", "up + up", "up + 1"} {
		s := Source{Owner: "acme", Store: two(t), Query: query(t, q)}
		v, _, _ := Eval([]Source{s, s}, 7, 100)
		apart(t, q, v.L)
	}
}

// spoil writes into all of a list, and behind each of its lists.
func spoil(l []api.Point) {
	for i := range l {
		_ = append(l[i].Attrs, api.Attr{Key: "more"})
		for j := range l[i].Attrs {
			l[i].Attrs[j] = api.Attr{Key: "spoilt"}
		}
		l[i].V = 99
	}
}

// apart holds the points of an answer to sharing no memory with one another.
func apart(t *testing.T, what string, l []api.Point) {
	t.Helper()
	for i := range l {
		others := Text(Value{L: slices.Concat(l[:i], l[i+1:])})
		spoil(l[i : i+1])
		if Text(Value{L: slices.Concat(l[:i], l[i+1:])}) != others {
			t.Errorf("%s: points share memory", what)
		}
	}
}

// P17.1: the least whole number, where a store has it, is -Top.
func TestLeastNumber(t *testing.T) {
	s := Source{Store: made(t, point(t, "up", "{}", 5, math.MinInt64))}
	for _, q := range []string{"up", "last(up[9ns])", "(up)", "max(up)", "--up", "up * 1", "up / 1", "up + 0"} {
		s.Query = query(t, q)
		if v, _, e := Eval([]Source{s}, 7, 100); e != api.OK || len(v.L) != 1 || v.L[0].V != -fixed.Top {
			t.Errorf("%s = %v, %d", q, v, e)
		}
	}
}
