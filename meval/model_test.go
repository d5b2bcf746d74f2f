package meval

import (
	"cmp"
	"math"
	"math/big"
	"math/rand"
	"slices"
	"strconv"
	"strings"
	"testing"

	"belfry/api"
	"belfry/attr"
	"belfry/fixed"
	"belfry/metricq"
	"belfry/store"
)

// The model reckons with numbers of any size, which it holds within the bounds behind each step, and goes through all records of a store for each series.

// bound holds a number within the bounds.
func bound(v *big.Int) *big.Int {
	top := big.NewInt(math.MaxInt64)
	if v.CmpAbs(top) <= 0 {
		return v
	}
	return top.Mul(top, big.NewInt(int64(v.Sign())))
}

func wide(v int64) *big.Int {
	return bound(big.NewInt(v))
}

// dot is a point of the model.
type dot struct {
	attrs []api.Attr
	v     *big.Int
}

// worth is a value of the model, with what it cost.
type worth struct {
	number *big.Int // nil: dots
	dots   []dot
	looked int
	zero   bool // a division by 0
}

func (w worth) list() []dot {
	if w.number != nil {
		return []dot{{nil, w.number}}
	}
	return w.dots
}

func cmpDots(a, b dot) int {
	c := slices.CompareFunc(a.attrs, b.attrs, func(x, y api.Attr) int {
		return cmp.Or(strings.Compare(x.Key, y.Key), strings.Compare(x.Value, y.Value))
	})
	return cmp.Or(c, a.v.Cmp(b.v))
}

func sameAttrs(a, b []api.Attr) bool {
	return slices.Equal(a, b)
}

func modelOp(op int, a, b *big.Int) (*big.Int, bool) {
	out := new(big.Int)
	switch op {
	case api.OAdd:
		return bound(out.Add(a, b)), true
	case api.OSub:
		return bound(out.Sub(a, b)), true
	case api.OMul:
		return bound(out.Quo(out.Mul(a, b), big.NewInt(api.One))), true
	}
	if b.Sign() == 0 {
		return nil, false
	}
	return bound(out.Quo(out.Mul(a, big.NewInt(api.One)), b)), true
}

// modelShown tells attributes as a source shows them.
func modelShown(s Source, l []api.Attr) []api.Attr {
	var out []api.Attr
	for _, a := range l {
		if a.Key != "tenant" && !slices.Contains(s.Hidden, a.Key) {
			out = append(out, a)
		}
	}
	if s.Owner != "" {
		out = append(out, api.Attr{Key: "tenant", Value: s.Owner})
	}
	slices.SortFunc(out, func(x, y api.Attr) int { return strings.Compare(x.Key, y.Key) })
	return out
}

// modelSeries tells the points of each series that fits a select, rising.
func modelSeries(s Source, n api.Node) [][]api.Record {
	var out [][]api.Record
	for r := range s.Store.All() {
		if r.Kind != api.KPoint || r.Name != n.Name || !attr.Fits(r.Attrs, n.Match) {
			continue
		}
		i := slices.IndexFunc(out, func(l []api.Record) bool { return sameAttrs(l[0].Attrs, r.Attrs) })
		if i < 0 {
			out = append(out, []api.Record{r})
		} else {
			out[i] = append(out[i], r)
		}
	}
	return out
}

func modelSelect(l []Source, i int, at int64) worth {
	var w worth
	for _, s := range l {
		for _, series := range modelSeries(s, s.Query[i]) {
			w.looked += len(series)
			var v *big.Int
			for _, r := range series {
				if r.T <= at && r.T > at-Look {
					v = wide(r.V)
				}
			}
			if v != nil {
				w.dots = append(w.dots, dot{modelShown(s, series[0].Attrs), v})
			}
		}
	}
	return w
}

func modelCall(l []Source, call api.Node, at int64) worth {
	var w worth
	for _, s := range l {
		n := s.Query[call.A]
		for _, series := range modelSeries(s, n) {
			var v []*big.Int
			for _, r := range series {
				if r.T <= at && r.T > at-n.Range {
					v = append(v, wide(r.V))
				}
			}
			w.looked += len(v)
			if len(v) == 0 || call.Name == "rate" && len(v) == 1 {
				continue
			}
			w.dots = append(w.dots, dot{modelShown(s, series[0].Attrs), modelWindow(call.Name, v, n.Range)})
		}
	}
	return w
}

func modelWindow(name string, v []*big.Int, span int64) *big.Int {
	end := v[len(v)-1]
	switch name {
	case "last":
		return end
	case "delta":
		d, _ := modelOp(api.OSub, end, v[0])
		return d
	}
	rise := new(big.Int)
	for i := 1; i < len(v); i++ {
		if v[i].Cmp(v[i-1]) < 0 {
			rise = bound(new(big.Int).Add(rise, v[i]))
		} else {
			rise = bound(rise.Add(rise, bound(new(big.Int).Sub(v[i], v[i-1]))))
		}
	}
	micros := big.NewInt(span / 1000)
	if micros.Sign() == 0 {
		micros = big.NewInt(1)
	}
	out, _ := modelOp(api.ODiv, rise, micros)
	return out
}

func modelAgg(n api.Node, l []dot) worth {
	var w worth
	for at, d := range l {
		var key []api.Attr
		for _, a := range d.attrs {
			if slices.Contains(n.By, a.Key) {
				key = append(key, a)
			}
		}
		first := true
		var group []*big.Int
		for i, o := range l {
			left := slices.DeleteFunc(slices.Clone(o.attrs), func(a api.Attr) bool { return !slices.Contains(n.By, a.Key) })
			if sameAttrs(left, key) {
				first = first && i >= at
				group = append(group, o.v)
			}
		}
		if first {
			w.dots = append(w.dots, dot{key, modelGroup(n.Name, group)})
		}
	}
	return w
}

func modelGroup(name string, l []*big.Int) *big.Int {
	sum, count := new(big.Int), new(big.Int).Mul(big.NewInt(int64(len(l))), big.NewInt(api.One))
	for _, v := range l {
		sum = bound(new(big.Int).Add(sum, v))
	}
	rising := slices.SortedFunc(slices.Values(l), (*big.Int).Cmp)
	switch name {
	case "sum":
		return sum
	case "min":
		return rising[0]
	case "max":
		return rising[len(rising)-1]
	case "count":
		return count
	}
	out, _ := modelOp(api.ODiv, sum, count)
	return out
}

func modelBinary(op int, a, b worth) worth {
	if a.number != nil && b.number != nil {
		v, ok := modelOp(op, a.number, b.number)
		return worth{number: v, zero: !ok}
	}
	var w worth
	one := func(attrs []api.Attr, x, y *big.Int) {
		if v, ok := modelOp(op, x, y); ok {
			w.dots = append(w.dots, dot{attrs, v})
		}
	}
	for _, x := range a.list() {
		for _, y := range b.list() {
			if a.number != nil {
				one(y.attrs, x.v, y.v)
			} else if b.number != nil || sameAttrs(x.attrs, y.attrs) {
				one(x.attrs, x.v, y.v)
				break
			}
		}
	}
	return w
}

func modelNode(l []Source, values []worth, i int, at int64) worth {
	n := l[0].Query[i]
	switch n.Kind {
	case api.NNumber:
		return worth{number: big.NewInt(n.V)}
	case api.NSelect:
		if n.Range != 0 {
			return worth{}
		}
		return modelSelect(l, i, at)
	case api.NCall:
		return modelCall(l, n, at)
	case api.NAgg:
		return modelAgg(n, values[n.A].list())
	case api.NBinary:
		return modelBinary(n.Op, values[n.A], values[n.B])
	case api.NParen:
		return values[n.A]
	}
	var w worth
	if v := values[n.A].number; v != nil {
		return worth{number: new(big.Int).Neg(v)}
	}
	for _, d := range values[n.A].dots {
		w.dots = append(w.dots, dot{d.attrs, new(big.Int).Neg(d.v)})
	}
	return w
}

// model tells the text of a query's value, its steps, and its error within a budget.
func model(l []Source, at int64, budget int) (string, int, api.Errno) {
	var values []worth
	steps := 0
	for i := range l[0].Query {
		if steps++; steps > budget {
			return "", 0, api.ErrBudget
		}
		w := modelNode(l, values, i, at)
		if w.zero {
			return "", 0, api.ErrZero
		}
		if l[0].Query[i].Kind != api.NParen {
			steps += w.looked + len(w.dots)
		}
		if steps > budget {
			return "", 0, api.ErrBudget
		}
		slices.SortFunc(w.dots, cmpDots)
		values = append(values, w)
	}
	root := values[len(values)-1]
	if root.number != nil {
		return fixed.Text(root.number.Int64()) + "\n", steps, api.OK
	}
	var s strings.Builder
	for _, d := range root.dots {
		s.WriteString(attr.Text(d.attrs) + " " + fixed.Text(d.v.Int64()) + "\n")
	}
	return s.String(), steps, api.OK
}

// Where the random tests look from: at small times, so that some of it lies ahead of 0, and at ones from which Look reaches just to the points.
var someTimes = []int64{0, 3, 6, 10, Look, Look + 4, Look + 9, 2 * Look}

func anyStore(t *testing.T, r *rand.Rand) *store.Store {
	s := store.New(200)
	for at := range int64(12) {
		for range r.Intn(6) {
			when := at
			if r.Intn(6) == 0 {
				when += Look
			}
			v := int64(r.Intn(9)-3) * api.One / int64(1+r.Intn(2))
			if r.Intn(12) == 0 {
				v = []int64{math.MinInt64, math.MaxInt64, -math.MaxInt64, 1}[r.Intn(4)]
			}
			attrs := []string{`{}`, `{a="1"}`, `{a="2"}`, `{a="1", b="1"}`, `{a="1", b="2"}`, `{b="1", tenant="x"}`, `{z="1"}`}[r.Intn(7)]
			s.Put(point(t, []string{"up", "down"}[r.Intn(2)], attrs, when, v)) // it may be ErrOld
		}
	}
	s.Put(api.Record{Kind: api.KLine, Name: "up", T: 5})
	return s
}

func anyMatch(r *rand.Rand) string {
	return []string{"", "", "", `{a="1"}`, `{a!="1"}`, `{b=~"1"}`, `{b!~"1", a=~"1"}`, `{tenant="x"}`, `{a="none"}`}[r.Intn(9)]
}

func anyQuery(r *rand.Rand, deep int) string {
	if deep == 0 {
		if r.Intn(3) == 0 {
			return []string{"0", "1", "2", "0.5", "3"}[r.Intn(5)]
		}
		return []string{"up", "down"}[r.Intn(2)] + anyMatch(r)
	}
	switch r.Intn(8) {
	case 0:
		return "-" + anyQuery(r, deep-1)
	case 1:
		return "(" + anyQuery(r, deep-1) + ")"
	case 2:
		by := []string{"", " by (a) ", " by (tenant) ", " by (b, a) ", " by (none) "}[r.Intn(5)]
		return []string{"sum", "min", "max", "avg", "count"}[r.Intn(5)] + by + "(" + anyQuery(r, deep-1) + ")"
	case 3:
		span := []string{"1ns", "4ns", "9ns", "1500ns", "2s", "300s"}[r.Intn(6)]
		return []string{"rate", "delta", "last"}[r.Intn(3)] + "(up" + anyMatch(r) + "[" + span + "])"
	case 4:
		return anyQuery(r, 0)
	case 5:
		return "(" + anyQuery(r, deep-1) + ") / " + []string{"0", "2"}[r.Intn(2)]
	}
	return "(" + anyQuery(r, deep-1) + ")" + []string{" + ", " - ", " * ", " / "}[r.Intn(4)] + "(" + anyQuery(r, deep-1) + ")"
}

// anySources tells sources of one query, each with matchers of its own.
func anySources(t *testing.T, r *rand.Rand, stores []*store.Store) []Source {
	nodes := query(t, anyQuery(r, r.Intn(4)))
	var l []Source
	for range 1 + r.Intn(3) {
		s := Source{Owner: []string{"", "acme", "globex", "acme"}[r.Intn(4)], Store: stores[r.Intn(len(stores))], Query: slices.Clone(nodes)}
		if r.Intn(2) == 0 {
			s.Hidden = [][]string{{"a"}, {"b"}, {"tenant"}, {"a", "b", "z"}}[r.Intn(4)]
		}
		if len(l) > 0 {
			for _, i := range metricq.Selects(nodes) {
				s.Query[i].Match = query(t, "up"+anyMatch(r))[0].Match
			}
		}
		l = append(l, s)
	}
	return l
}

// P17.1, P17.4, P17.7: whatever is asked, the answer is the model's, within every budget; the order of sources plays no part, and neither does one without a series.
func TestAsTheModel(t *testing.T) {
	full, zero, two := 0, 0, 0
	for seed := range int64(60) {
		r := rand.New(rand.NewSource(seed))
		stores := []*store.Store{anyStore(t, r), anyStore(t, r), nil}
		for range 100 {
			l, at := anySources(t, r, stores), someTimes[r.Intn(len(someTimes))]
			want, steps, e := model(l, at, api.MaxSteps)
			check(t, l, at, api.MaxSteps)
			for _, budget := range []int{1, 2 + r.Intn(20), max(1, steps-1), max(1, steps), steps + 1} {
				check(t, l, at, budget)
			}
			slices.Reverse(l)
			more := slices.Insert(slices.Clone(l), r.Intn(len(l)+1), Source{Owner: "more", Store: made(t, point(t, "other", "{}", 5, 1)), Query: l[0].Query})
			for _, other := range [][]Source{l, more} {
				if v, n, g := Eval(other, at, api.MaxSteps); Text(v) != want && e == api.OK || n != steps || g != e {
					t.Fatalf("%v in another order: %q, %d, %d, want %q, %d, %d", l, Text(v), n, g, want, steps, e)
				}
			}
			full += min(1, strings.Count(want, "\n"))
			two += min(1, strings.Count(want, "\n")/2)
			if e == api.ErrZero {
				zero++
			}
		}
	}
	if full < 3000 || two < 1500 || zero < 20 {
		t.Errorf("%d values, %d of several points, %d divisions by 0: the test tells little", full, two, zero)
	}
}

func check(t *testing.T, l []Source, at int64, budget int) {
	t.Helper()
	want, steps, e := model(l, at, budget)
	v, n, g := Eval(l, at, budget)
	if g != e || n != steps || e == api.OK && Text(v) != want || e != api.OK && (v.Scalar || v.V != 0 || len(v.L) != 0) {
		s, _ := metricq.Print(l[0].Query)
		t.Fatalf("%s at %d within %d = %q, %d, %d, want %q, %d, %d", s, at, budget, Text(v), n, g, want, steps, e)
	}
}

// P17.1: of what source its query is taken matters to it alone: one whose nodes are the others' but for its matchers is seen through them.
func TestOwnMatchers(t *testing.T) {
	s := made(t, point(t, "up", `{a="1"}`, 5, 1*api.One), point(t, "up", `{a="2"}`, 5, 2*api.One))
	l := []Source{{Owner: "one", Store: s, Query: query(t, `up{a="1"} + last(up[9ns])`)}, {Owner: "two", Store: s, Query: query(t, `up{a="2"} + last(up{a="2"}[9ns])`)}}
	v, n, e := Eval(l, 5, 100)
	if e != api.OK || n != 4+2+2+3+3+2 || Text(v) != "{a=\"1\", tenant=\"one\"} 2\n{a=\"2\", tenant=\"two\"} 4\n" {
		t.Errorf("Eval = %q, %d, %d", Text(v), n, e)
	}
}

// P17.5: what is not in the time, of another name, or does not fit, plays no part in a value.
func TestPlaysNoPart(t *testing.T) {
	r := rand.New(rand.NewSource(175))
	told := 0
	for range 1500 {
		s := anyStore(t, r)
		at := someTimes[r.Intn(len(someTimes))]
		q := query(t, "up"+anyMatch(r))
		if r.Intn(2) == 0 {
			q = query(t, []string{"last", "delta", "rate"}[r.Intn(3)]+"(up"+anyMatch(r)+"[4ns])")
		}
		from := at - Look
		if q[0].Range > 0 {
			from = at - q[0].Range
		}
		less := store.New(200)
		for x := range s.All() {
			if x.Kind == api.KPoint && x.Name == "up" && attr.Fits(x.Attrs, q[0].Match) && x.T > from && x.T <= at {
				less.Put(x)
			}
		}
		a, _, _ := Eval([]Source{{Owner: "acme", Store: s, Query: q}}, at, api.MaxSteps)
		b, _, _ := Eval([]Source{{Owner: "acme", Store: less, Query: q}}, at, api.MaxSteps)
		if Text(a) != Text(b) {
			t.Fatalf("%v at %d = %q, and without what plays no part %q", q, at, Text(a), Text(b))
		}
		told += min(1, len(a.L))
	}
	if told < 500 {
		t.Errorf("%d values: the test tells little", told)
	}
}

// P17.6: sums of sums are sums; count is at least 1; min, avg and max are in order.
func TestAggLaws(t *testing.T) {
	r := rand.New(rand.NewSource(176))
	for range 3000 {
		var l []api.Point
		for range r.Intn(12) {
			l = append(l, api.Point{Attrs: set(t, `{a="`+strconv.Itoa(r.Intn(2))+`", b="`+strconv.Itoa(r.Intn(3))+`", c="`+strconv.Itoa(r.Intn(2))+`"}`), V: r.Int63n(2000000) - 1000000})
		}
		by := []string{"a", "b", "c"}[:r.Intn(4)]
		fewer := by[:r.Intn(len(by)+1)]
		parts, _ := Agg("sum", by, l...)
		twice, _ := Agg("sum", fewer, parts...)
		once, _ := Agg("sum", fewer, l...)
		if Text(Value{L: twice}) != Text(Value{L: once}) {
			t.Fatalf("sums by %v of sums by %v of %v: %v, want %v", fewer, by, l, twice, once)
		}
		count, _ := Agg("count", by, l...)
		least, _ := Agg("min", by, l...)
		avg, _ := Agg("avg", by, l...)
		most, _ := Agg("max", by, l...)
		for i := range count {
			if count[i].V < api.One || least[i].V > avg[i].V || avg[i].V > most[i].V || attr.Cmp(count[i].Attrs, parts[i].Attrs) != 0 {
				t.Fatalf("of %v by %v: count %v, min %v, avg %v, max %v", l, by, count, least, avg, most)
			}
		}
	}
}

// P1: a query of the greatest stores ends soon, within its budget and beyond.
func TestGreatest(t *testing.T) {
	s := store.New(api.MaxStore)
	for i := range api.MaxStore {
		s.Put(api.Record{Kind: api.KPoint, Name: "up", Attrs: []api.Attr{{Key: "a", Value: strconv.Itoa(i)}}, T: 5, V: int64(i)})
	}
	for q, steps := range map[string]int{"up + up": 3 + 5*api.MaxStore, "count by (a) (up)": 2 + 3*api.MaxStore, "sum(up)": 3 + 2*api.MaxStore} {
		_, n, e := Eval([]Source{{Owner: "acme", Store: s, Query: query(t, q)}}, 7, api.MaxSteps)
		if steps > api.MaxSteps {
			steps, e = 0, e-api.ErrBudget
		}
		if n != steps || e != api.OK {
			t.Errorf("%s: %d steps, %d, want %d", q, n, e, steps)
		}
	}
	many := slices.Repeat([]Source{{Owner: "acme", Store: s, Query: query(t, "up")}}, 500)
	fails(t, "many sources", many, 7, api.MaxSteps, api.ErrBudget)
}
