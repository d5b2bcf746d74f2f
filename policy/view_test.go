package policy

import (
	"math"
	"math/rand"
	"slices"
	"strconv"
	"strings"
	"testing"

	"belfry/api"
	"belfry/attr"
)

func sameViews(a, b []api.View) bool {
	return slices.EqualFunc(a, b, func(a, b api.View) bool {
		return a.Owner == b.Owner && slices.Equal(a.Scope, b.Scope) && slices.Equal(a.Hidden, b.Hidden)
	})
}

func sameRecord(a, b api.Record) bool {
	attrs := slices.Equal(a.Attrs, b.Attrs)
	return attrs && a.Kind == b.Kind && a.Name == b.Name && a.T == b.T && a.To == b.To && a.V == b.V && a.Level == b.Level && a.Text == b.Text && a.Trace == b.Trace && a.Id == b.Id && a.Parent == b.Parent
}

func attrsOf(t *testing.T, s string) []api.Attr {
	t.Helper()
	l, e, at := attr.Parse(s)
	if e != api.OK {
		t.Fatal(s, e, at)
	}
	return l
}

// Example 1 of the chapter: the views.
func TestExampleViews(t *testing.T) {
	want := []api.View{{Owner: "acme", Scope: match(eq("env", "prod"), ne("level", "debug")), Hidden: []string{"user"}}}
	if v := Views(exampleRules, "acme", "globex", api.KLine); !sameViews(v, want) {
		t.Errorf("Views of globex = %v", v)
	}
	if v := Views(exampleRules, "acme", "initech", api.KLine); len(v) != 0 {
		t.Errorf("Views of initech = %v", v)
	}
}

// rulesOf are the rules of a text.
func rulesOf(t *testing.T, s string) []api.Rule {
	t.Helper()
	l, e, at := Parse(s)
	if e != api.OK {
		t.Fatal(s, e, at)
	}
	return l
}

// viewText is a view as a text: its scope, and what it hides.
func viewText(v []api.View) string {
	var out []string
	for _, x := range v {
		out = append(out, attr.MatchText(x.Scope)+strings.Join(x.Hidden, ","))
	}
	return strings.Join(out, " ")
}

// P11.3: whom, and what kind, a rule is for; the order; what is denied.
func TestViews(t *testing.T) {
	for _, c := range []struct {
		rules, viewer string
		kind          int
		want          string
	}{
		{"", "b", 1, ""},
		{"allow any to b", "b", 1, "{}"},
		{"allow any to b", "b", 2, "{}"},
		{"allow any to b", "b", 3, "{}"},
		{"allow any to b", "c", 1, ""},
		{"allow any to b", "", 1, ""},
		{"allow any to b", "*", 1, ""},
		{"allow any to *", "*", 1, "{}"},
		{"allow any to *", "", 1, "{}"},
		{"allow any to *", "no name", 1, "{}"},
		{"allow logs to b", "b", 1, ""},
		{"allow logs to b", "b", 2, "{}"},
		{"allow logs to b", "b", 3, ""},
		{"allow any to b hide z, y", "b", 1, "{}z,y"},
		{"allow any to b where {z=\"1\", y=\"2\", z=\"1\"}", "b", 1, `{y="2", z="1"}`},
		{"allow any to * hide x\nallow any to b hide y\nallow any to c\nallow metrics to * hide z\nallow any to b", "b", 1, "{}x {}y {}z {}"},
		{"allow any to b\nallow any to b", "b", 1, "{} {}"},
		{"deny any to *", "b", 1, ""},
		{"allow any to b\ndeny any to *", "b", 1, ""},
		{"deny any to b\nallow any to b\nallow any to *", "b", 1, ""},
		{"deny any to c\nallow any to b", "b", 1, "{}"},
		{"deny logs to b\nallow any to b", "b", 1, "{}"},
		{"deny metrics to b\nallow any to b", "b", 1, ""},
		{"deny any to b where {x=\"1\"}\nallow any to b", "b", 1, `{x!="1"}`},
		{"allow any to b\ndeny any to * where {x!=\"1\"}\nallow any to *", "b", 1, `{x="1"} {x="1"}`},
		{"allow any to b\ndeny any to b where {x=~\"1\"}", "b", 1, `{x!~"1"}`},
		{"allow any to b\ndeny any to b where {x!~\"1\"}", "b", 1, `{x=~"1"}`},
		{"allow any to b\ndeny any to b where {x=\"1\"}\ndeny any to b", "b", 1, ""},
		{"allow any to b\ndeny any to c where {x=\"1\"}\ndeny traces to b where {y=\"1\"}", "b", 1, "{}"},
		{"allow any to b where {x=\"2\", w=\"3\"} hide q\ndeny any to b where {y=~\"1\"}\ndeny metrics to * where {x=\"2\"}", "b", 1, `{w="3", x="2", x!="2", y!~"1"}q`},
		{"allow any to b where {x!=\"2\"}\ndeny any to b where {x=\"2\"}\ndeny any to * where {x=\"2\"}", "b", 1, `{x!="2"}`},
		{"deny any to b where {x=\"2\"}", "b", 1, ""},
	} {
		l := rulesOf(t, c.rules)
		as := copyRules(l)
		v := Views(l, "acme", c.viewer, c.kind)
		if s := viewText(v); s != c.want {
			t.Errorf("%q, %s, %d: Views = %s, want %s", c.rules, c.viewer, c.kind, s, c.want)
		}
		for i := range v {
			if v[i].Owner != "acme" {
				t.Errorf("%q: a view of %s", c.rules, v[i].Owner)
			}
			clear(v[i].Scope)
			clear(v[i].Hidden)
		}
		if !Same(l, as) {
			t.Errorf("%q: a view shares its memory with the rules", c.rules)
		}
	}
}

// P11.3: numbers that are no kinds.
func TestViewsOfNoKind(t *testing.T) {
	for _, kind := range []int{0, -1, 4, math.MaxInt, math.MinInt} {
		for _, viewer := range []string{"acme", "b"} {
			if v := Views([]api.Rule{{To: "*"}}, "acme", viewer, kind); len(v) != 0 {
				t.Errorf("Views of the kind %d = %v", kind, v)
			}
		}
	}
}

// P11.3, P11.8: an owner sees all of its own, whatever the rules are.
func TestViewsOfOwner(t *testing.T) {
	for _, owner := range []string{"acme", "", "*", "No name"} {
		for kind := 1; kind <= 3; kind++ {
			for _, l := range [][]api.Rule{nil, {{Deny: true, To: "*"}}, {{To: "acme", Scope: match(eq("a", "1")), Hidden: []string{"b"}}, {Deny: true, To: "acme"}}} {
				v := Views(l, owner, owner, kind)
				if len(v) != 1 || v[0].Owner != owner || len(v[0].Scope) != 0 || len(v[0].Hidden) != 0 {
					t.Errorf("Views of %q itself = %v", owner, v)
				}
			}
		}
	}
}

// P11.3: rules that can not be play no part, neither in allowing nor in denying.
func TestViewsOfWrongRules(t *testing.T) {
	wrong := []api.Rule{
		{Kind: 4, To: "b"}, {Kind: -1, To: "*"}, {Deny: true, Kind: 4, To: "b"},
		{To: "b", Scope: match(api.Matcher{Key: "a"})}, {To: "b", Scope: slices.Repeat(match(eq("a", "1")), 9)}, {To: "b", Scope: match(eq("1", ""))},
		{To: "b", Hidden: []string{"x", "x"}}, {To: "b", Hidden: []string{"1"}}, {To: "b", Hidden: manyKeys(17)},
		{Deny: true, To: "b", Hidden: []string{"x"}}, {Deny: true, To: "b", Scope: match(eq("a", "1"), eq("b", "1"))}, {Deny: true, To: "*", Scope: match(eq("a", "\xff"))},
		{To: "B C"}, {Deny: true, To: "B C"}, {To: ""}, {Deny: true, To: ""},
	}
	for _, viewer := range []string{"b", "B C", ""} {
		if v := Views(wrong, "acme", viewer, 1); len(v) != 0 {
			t.Errorf("Views of %q = %v", viewer, v)
		}
		if v := Views(append(wrong, api.Rule{To: "*"}), "acme", viewer, 1); viewText(v) != "{}" {
			t.Errorf("Views of %q, with a rule that can be = %v", viewer, v)
		}
	}
}

// P11.3: where scope and what is denied are too many together there is no view of that rule, and of others there is.
func TestViewsTooMany(t *testing.T) {
	var rules []api.Rule
	for i := range 6 {
		rules = append(rules, api.Rule{Deny: true, To: "*", Scope: match(eq("k", strconv.Itoa(i)))})
	}
	two, three := match(eq("a", "1"), eq("b", "1")), match(eq("a", "1"), eq("b", "1"), eq("c", "1"))
	allow := []api.Rule{{To: "b", Scope: three}, {To: "b", Scope: two}, {To: "b", Scope: three}, {To: "b", Scope: append(slices.Clone(three), ne("k", "3"))}, {To: "b", Scope: append(slices.Clone(two), ne("k", "3"))}, {To: "b"}}
	want := []int{8, 8, 6}
	v := Views(append(rules, allow...), "acme", "b", 1)
	if len(v) != 3 {
		t.Fatalf("Views = %v", v)
	}
	for i := range v {
		if len(v[i].Scope) != want[i] {
			t.Errorf("the view %d = %v", i, v[i])
		}
	}
	rules = append(rules, rules...) // none stands twice in a view
	if v := Views(append(rules, allow...), "acme", "b", 1); len(v) != 3 {
		t.Errorf("Views with each denying rule twice = %v", v)
	}
	for i := range 3 {
		rules = append(rules, api.Rule{Deny: true, To: "b", Scope: match(has("k", strconv.Itoa(i)))})
	}
	if v := Views(append(rules, api.Rule{To: "b"}), "acme", "b", 1); len(v) != 0 {
		t.Errorf("Views of nine denying rules = %v", v)
	}
	if v := Views(append(rules, api.Rule{To: "c"}), "acme", "c", 1); len(v) != 1 {
		t.Errorf("Views of six denying rules and three for another = %v", v)
	}
}

// P11.4: the first view that fits, and what it hides; all else as it was.
func TestSees(t *testing.T) {
	r := api.Record{Kind: api.KSpan, Name: "n", Attrs: attrsOf(t, `{a="1", b="2", c="3"}`), T: 4, To: 5, V: 6, Level: 7, Text: "t", Trace: [16]byte{8}, Id: [8]byte{9}, Parent: [8]byte{10}}
	for _, c := range []struct {
		v    []api.View
		want string
		ok   bool
	}{
		{nil, "", false},
		{[]api.View{{}}, `{a="1", b="2", c="3"}`, true},
		{[]api.View{{Owner: "x", Hidden: []string{"z"}}}, `{a="1", b="2", c="3"}`, true},
		{[]api.View{{Hidden: []string{"b"}}, {}}, `{a="1", c="3"}`, true},
		{[]api.View{{Hidden: []string{"c", "a", "b"}}}, `{}`, true},
		{[]api.View{{Scope: match(eq("a", "2"))}}, "", false},
		{[]api.View{{Scope: match(eq("a", "1"), ne("b", "2"))}, {Scope: match(has("z", "1"))}}, "", false},
		{[]api.View{{Scope: match(eq("a", "2"))}, {Scope: match(eq("a", "1")), Hidden: []string{"a"}}, {Hidden: []string{"b"}}}, `{b="2", c="3"}`, true},
		{[]api.View{{Scope: match(eq("z", ""), not("a", "3")), Hidden: []string{"z", "c"}}}, `{a="1", b="2"}`, true},
		{[]api.View{{Scope: match(api.Matcher{Op: 9, Key: "a", Value: "1"})}}, "", false},
	} {
		got, ok := Sees(c.v, r)
		want := api.Record{}
		if c.ok {
			want = r
			want.Attrs = attrsOf(t, c.want)
		}
		if ok != c.ok || !sameRecord(got, want) {
			t.Errorf("Sees(%v) = %v, %v", c.v, got, ok)
		}
		clear(got.Attrs)
		if attr.Text(r.Attrs) != `{a="1", b="2", c="3"}` {
			t.Fatalf("Sees(%v) shares the record's attributes", c.v)
		}
	}
}

// P11.4, P1: a record whose attributes are no set.
func TestSeesNoSet(t *testing.T) {
	r := api.Record{Attrs: []api.Attr{{Key: "b", Value: "1"}, {Key: "a"}, {Key: "b", Value: "2"}, {}}}
	got, ok := Sees([]api.View{{Scope: match(eq("b", "2"))}, {Scope: match(eq("b", "1")), Hidden: []string{"b", ""}}}, r)
	if !ok || !slices.Equal(got.Attrs, []api.Attr{{Key: "a"}}) {
		t.Errorf("Sees = %v, %v", got, ok)
	}
	if got, ok := Sees([]api.View{{}}, api.Record{}); !ok || !sameRecord(got, api.Record{}) {
		t.Errorf("Sees of no record = %v, %v", got, ok)
	}
}

// anyAttrs is a set of few keys and values.
func anyAttrs(r *rand.Rand) []api.Attr {
	var out []api.Attr
	for _, k := range []string{"a", "b", "c.d", "e"} {
		if r.Intn(3) > 0 {
			out = append(out, api.Attr{Key: k, Value: []string{"1", "2", "12", "x y", "é"}[r.Intn(5)]})
		}
	}
	return out
}

// isFor tells whether a rule is for a viewer and a kind.
func isFor(r api.Rule, viewer string, kind int) bool {
	return (r.To == "*" || r.To == viewer) && (r.Kind == 0 || r.Kind == kind)
}

// modelSees tells by the rules alone, without views, what is seen. Not asked: scopes that are too many.
func modelSees(l []api.Rule, owner, viewer string, r api.Record) (api.Record, bool) {
	if owner == viewer {
		return r, true
	}
	for _, rule := range l {
		if rule.Deny && isFor(rule, viewer, r.Kind) && attr.Fits(r.Attrs, rule.Scope) {
			return api.Record{}, false
		}
	}
	for _, rule := range l {
		if !rule.Deny && isFor(rule, viewer, r.Kind) && attr.Fits(r.Attrs, rule.Scope) {
			r.Attrs = slices.DeleteFunc(slices.Clone(r.Attrs), func(a api.Attr) bool { return slices.Contains(rule.Hidden, a.Key) })
			return r, true
		}
	}
	return api.Record{}, false
}

// P11.3, P11.4, P11.6, P11.7, P11.8, P10: what is seen through the views is what the rules say; a rule more that allows takes nothing away, one that denies adds nothing; what is hidden is not there.
func TestSeesByModel(t *testing.T) {
	r := rand.New(rand.NewSource(113))
	seen := 0
	for range 40000 {
		l := anyRules(r, 5) // of at most two matchers each: never too many
		record := api.Record{Kind: 1 + r.Intn(3), Name: "n", Attrs: anyAttrs(r), T: r.Int63(), V: r.Int63()}
		viewer := []string{"a", "b", "c-1", "acme"}[r.Intn(4)]
		views := Views(l, "acme", viewer, record.Kind)
		want, wok := modelSees(l, "acme", viewer, record)
		got, ok := Sees(views, record)
		if ok != wok || !sameRecord(got, want) {
			t.Fatalf("%v, %s: %v is seen as %v, %v, want %v, %v", l, viewer, record, got, ok, want, wok)
		}
		if ok {
			seen++
		}
		more := anyRule(r)
		if Right(more) != api.OK {
			continue
		}
		place := r.Intn(len(l) + 1)
		_, still := Sees(Views(slices.Insert(slices.Clone(l), place, more), "acme", viewer, record.Kind), record)
		if more.Deny && still && !ok || !more.Deny && ok && !still {
			t.Fatalf("%v and %v: seen %v, then %v", l, more, ok, still)
		}
	}
	if seen < 5000 || seen > 35000 {
		t.Errorf("%d are seen", seen)
	}
}

// modelViews tells the views by the chapter's words, rule by rule.
func modelViews(l []api.Rule, owner, viewer string, kind int) []api.View {
	if kind < 1 || kind > 3 {
		return nil
	}
	if owner == viewer {
		return []api.View{{Owner: owner}}
	}
	var views []api.View
	for _, r := range l {
		if Right(r) != api.OK || !isFor(r, viewer, kind) {
			continue
		}
		if r.Deny && len(r.Scope) == 0 {
			return nil
		}
		if r.Deny {
			continue
		}
		scope, e := attr.Both(r.Scope, nil)
		for _, d := range l {
			if d.Deny && Right(d) == api.OK && isFor(d, viewer, kind) && len(d.Scope) == 1 && e == api.OK {
				m := d.Scope[0]
				m.Op = []int{0, 2, 1, 4, 3}[m.Op]
				scope, e = attr.Both(scope, match(m))
			}
		}
		if e == api.OK {
			views = append(views, api.View{Owner: owner, Scope: scope, Hidden: r.Hidden})
		}
	}
	for _, d := range l {
		if d.Deny && Right(d) == api.OK && isFor(d, viewer, kind) && len(d.Scope) == 0 {
			return nil
		}
	}
	return views
}

// P11.3: rules of all kinds, those that can not be among them, and many, against the chapter's words; what is answered hangs on the arguments alone.
func TestViewsByModel(t *testing.T) {
	r := rand.New(rand.NewSource(1130))
	for range 20000 {
		var l []api.Rule
		for range r.Intn(40) {
			rule := anyRule(r)
			if rule.Deny && len(rule.Scope) == 0 && r.Intn(8) > 0 {
				continue
			}
			l = append(l, rule)
		}
		viewer, kind := []string{"a", "b", "c-1", "acme", "*"}[r.Intn(5)], r.Intn(5)
		want := modelViews(l, "acme", viewer, kind)
		for range 2 {
			if got := Views(l, "acme", viewer, kind); !sameViews(got, want) {
				t.Fatalf("Views(%v, %s, %d) = %v, want %v", l, viewer, kind, got, want)
			}
		}
	}
}

// P11.7: of two records that differ in a hidden value only, and are both seen through one view, the same is seen.
func TestHiddenPlaysNoPart(t *testing.T) {
	r := rand.New(rand.NewSource(117))
	for range 5000 {
		hidden := []string{"a", "b", "c.d", "e"}[r.Intn(4)]
		one := api.Record{Kind: api.KLine, Text: "t", Attrs: anyAttrs(r)}
		two := one
		two.Attrs, _ = attr.Set(one.Attrs, hidden, []string{"", "secret"}[r.Intn(2)])
		v := []api.View{{Hidden: []string{hidden}}}
		x, _ := Sees(v, one)
		y, _ := Sees(v, two)
		if _, there := attr.Get(x.Attrs, hidden); there || !sameRecord(x, y) {
			t.Fatalf("%v is seen as %v, %v as %v", one, x, two, y)
		}
	}
}
