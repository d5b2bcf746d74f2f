package metricq

import (
	"math"
	"math/rand"
	"slices"
	"strings"
	"testing"

	"belfry/api"
)

// P13.2: nodes that are not what Parse answers of their text.
func TestNotRight(t *testing.T) {
	up, one, five := sel("up"), num(1), ranged("up", 5)
	long := strings.Repeat("k", 65)
	match := func(m ...api.Matcher) []api.Node { return []api.Node{sel("up", m...)} }
	for i, l := range [][]api.Node{
		nil, {}, {{}}, {{Kind: 8}}, {{Kind: -1}}, {{Kind: math.MaxInt}},
		{one, one}, {one, up}, {one, one, neg(0)}, {one, neg(1)}, {one, neg(-1)}, {one, neg(2)}, {neg(0)}, {neg(0), one}, {paren(0)}, {two(0, 1, 0)}, {one, two(0, 1, 0)}, {one, one, two(0, 1, 0)}, {one, one, two(1, 1, 1)}, {one, one, two(1, 1, 0)}, {one, one, two(0, 1, 2)}, {one, one, two(math.MinInt, 1, math.MaxInt)}, {one, one, one, two(1, 1, 2)}, {one, one, two(0, 1, 1), one}, {one, {Kind: 9}, neg(0)}, {{Kind: 9}, neg(0)}, {one, {Kind: 9}},
		{one, one, two(0, 0, 1)}, {one, one, two(0, 5, 1)}, {one, one, two(0, -1, 1)}, {one, one, two(0, math.MaxInt, 1)},
		{{Kind: api.NNumber, V: -1}}, {{Kind: api.NNumber, V: math.MinInt64}}, {{Kind: api.NNumber, V: -api.One}}, {{Kind: api.NNumber, Name: "x"}}, {{Kind: api.NNumber, A: 1}}, {{Kind: api.NNumber, B: 1}}, {{Kind: api.NNumber, Op: 1}}, {{Kind: api.NNumber, Range: 1}}, {{Kind: api.NNumber, By: []string{"a"}}}, {{Kind: api.NNumber, Match: []api.Matcher{ma(1, "a", "b")}}},
		{sel("")}, {sel("\xff")}, {sel(strings.Repeat("-", 257))}, {sel(strings.Repeat("a", 1025))}, {{Kind: api.NSelect, Name: "up", V: 1}}, {{Kind: api.NSelect, Name: "up", By: []string{"a"}}}, {{Kind: api.NSelect, Name: "up", A: 1}},
		{five}, {five, paren(0)}, {five, neg(0)}, {five, agg("sum", 0)}, {five, one, two(0, 1, 1)}, {up, call("rate", 0)}, {one, call("rate", 0)}, {one, paren(0), call("rate", 1)}, {five, paren(0), call("rate", 1)}, {five, call("sum", 0)}, {five, call("", 0)}, {five, call("Rate", 0)}, {five, call("rate(up[5ns]) + rate", 0)}, {ranged("up", -1), call("rate", 0)}, {ranged("up", 1<<50+1), call("rate", 0)}, {ranged("up", 1<<50), call("rate", 0)}, {ranged("up", 1000000001), call("rate", 0)}, {five, {Kind: api.NCall, Name: "rate", By: []string{"a"}}}, {five, {Kind: api.NCall, Name: "rate", B: 1}},
		{up, agg("", 0)}, {up, agg("Sum", 0)}, {up, agg("rate", 0)}, {up, agg("sum ", 0)}, {up, agg("-sum", 0)}, {up, agg("sum by (a) ", 0)}, {up, agg("sum", 0, "")}, {up, agg("sum", 0, "a", "a")}, {up, agg("sum", 0, "1")}, {up, agg("sum", 0, "a, b")}, {up, agg("sum", 0, "a) (up) + sum by (a")}, {up, agg("sum", 0, long)}, {up, agg("sum", 0, " a")}, {up, agg("sum", 0, slices.Repeat([]string{"a"}, 17)...)}, {up, agg("sum", 0, strings.Split("a b c d e f g h i j k l m n o p q", " ")...)}, {up, {Kind: api.NAgg, Name: "sum", Range: 1}},
		match(ma(0, "a", "")), match(ma(5, "a", "")), match(ma(1, "", "")), match(ma(1, long, "")), match(ma(1, "1", "")), match(ma(1, `a="1", b`, "")), match(ma(1, "a ", "")), match(ma(1, "a", "\xff")), match(ma(1, "a", strings.Repeat("v", 257))), match(slices.Repeat([]api.Matcher{ma(1, "a", "")}, 9)...),
		{one, {Kind: api.NNeg, Name: "x"}}, {one, {Kind: api.NNeg, B: 1}}, {one, {Kind: api.NParen, Op: 1}}, {one, one, {Kind: api.NBinary, Op: 1, B: 1, Name: "+"}}, {one, one, two(0, 1, 1), neg(2)}, {one, one, two(0, 1, 1), one, two(2, 3, 3)}, {one, one, one, two(1, 1, 2), two(0, 1, 3)}, {one, one, one, two(1, 4, 2), two(0, 3, 3)},
		slices.Repeat([]api.Node{one}, 101), nested(17, paren), nested(17, neg), nested(101, neg), nested(100000, paren), doubled(100), doubled(100000),
		{sel(strings.Repeat("a", 1000)), sel(strings.Repeat("b", 22)), two(0, 1, 1)},
	} {
		if e := Right(l); e != api.ErrQuery {
			t.Errorf("Right of the list %d = %d", i, e)
		}
		if s, e := Print(l); s != "" || e != api.ErrQuery {
			t.Errorf("Print of the list %d = %q, %d", i, s, e)
		}
	}
	if e := Right([]api.Node{sel(strings.Repeat("a", 1000)), sel(strings.Repeat("b", 21)), two(0, 1, 1)}); e != api.OK {
		t.Errorf("Right of what is written with MaxLine bytes = %d", e)
	}
	if Right(nested(16, paren)) != api.OK || Right(nested(16, neg)) != api.OK {
		t.Error("Right of MaxNest within one another")
	}
}

// nested is a number with n nodes about it, each about the one ahead of it.
func nested(n int, node func(int) api.Node) []api.Node {
	l := []api.Node{num(1)}
	for i := range n {
		l = append(l, node(i))
	}
	return l
}

// doubled are n nodes of which each takes the one ahead of it twice, so that their text would have no end.
func doubled(n int) []api.Node {
	l := []api.Node{num(1)}
	for i := range n - 1 {
		l = append(l, two(i, 1, i))
	}
	return l
}

// P13.2: an empty list of matchers or keys is as none.
func TestEmptyLists(t *testing.T) {
	l := []api.Node{{Kind: api.NSelect, Name: "up", Match: []api.Matcher{}, By: []string{}}, {Kind: api.NAgg, Name: "sum", Match: []api.Matcher{}, By: []string{}}}
	if s, e := Print(l); s != "sum(up)" || e != api.OK {
		t.Errorf("Print = %q, %d", s, e)
	}
	if again, _, _ := Parse("sum(up)"); !Same(l, again) || !Same(again, l) {
		t.Error("not the same")
	}
}

// P13.2: Same asks each field of each node.
func TestSame(t *testing.T) {
	full := func() api.Node {
		return api.Node{Kind: 1, Name: "a", Op: 2, V: 3, Match: []api.Matcher{ma(1, "k", "v"), ma(2, "k", "v")}, Range: 4, By: []string{"x", "y"}, A: 5, B: 6}
	}
	for i, change := range []func(*api.Node){
		func(n *api.Node) { n.Kind++ }, func(n *api.Node) { n.Name += "a" }, func(n *api.Node) { n.Op++ }, func(n *api.Node) { n.V++ }, func(n *api.Node) { n.Range++ }, func(n *api.Node) { n.A++ }, func(n *api.Node) { n.B++ },
		func(n *api.Node) { n.Match = n.Match[:1] }, func(n *api.Node) { n.Match = nil }, func(n *api.Node) { n.Match[1].Op = 1 }, func(n *api.Node) { n.Match[0].Key = "" }, func(n *api.Node) { n.Match[0].Value = "" }, func(n *api.Node) { slices.Reverse(n.Match) },
		func(n *api.Node) { n.By = n.By[:1] }, func(n *api.Node) { n.By = nil }, func(n *api.Node) { n.By[1] = "z" }, func(n *api.Node) { slices.Reverse(n.By) },
	} {
		a, b := []api.Node{num(1), full()}, []api.Node{num(1), full()}
		if !Same(a, b) {
			t.Fatal("Same of two that are the same")
		}
		change(&b[1])
		if Same(a, b) || Same(b, a) {
			t.Errorf("Same does not see the change %d", i)
		}
	}
	one := []api.Node{num(1)}
	if !Same(nil, nil) || !Same(nil, []api.Node{}) || Same(nil, one) || Same(one, nil) || Same(one, []api.Node{num(1), num(1)}) || Same(one, []api.Node{{}}) {
		t.Error("Same of lists of other lengths")
	}
}

// P13.3: Selects, of any list.
func TestSelects(t *testing.T) {
	l, _, _ := Parse("sum(up) + rate(down[5m]) * 2 - up")
	if got := Selects(l); !slices.Equal(got, []int{0, 2, 7}) {
		t.Errorf("Selects = %v", got)
	}
	if got := Selects([]api.Node{{}, {Kind: api.NSelect, A: -1}, {Kind: 99}, {Kind: api.NSelect}}); !slices.Equal(got, []int{1, 3}) {
		t.Errorf("Selects = %v", got)
	}
	if len(Selects(nil)) != 0 || len(Selects([]api.Node{num(1)})) != 0 {
		t.Error("Selects of none")
	}
}

// wildNode is a node of any fields; of those that its kind does not ask for most are zero.
func wildNode(r *rand.Rand) api.Node {
	number := func() int {
		return []int{0, 0, 0, 0, 0, 0, 0, 1, 1, 2, 3, 4, 5, -1, math.MinInt, math.MaxInt}[r.Intn(16)]
	}
	text := func() string { return []string{"", "up", "sum", "rate", "by", "a b", "\xff", "("}[r.Intn(8)] }
	n := api.Node{Kind: 1 + r.Intn(7), A: number(), B: number()}
	switch n.Kind {
	case api.NSelect, api.NAgg, api.NCall:
		n.Name = text()
	case api.NBinary:
		n.Op = r.Intn(6)
	}
	if r.Intn(4) == 0 {
		n.Kind, n.Op, n.V, n.Range = number(), number(), int64(number()), int64(number())
	}
	if r.Intn(8) == 0 {
		n.Match = append(n.Match, ma(number(), text(), text()))
		n.By = append(n.By, text())
	}
	return n
}

// P1: no call panics at nodes of any kind; what is right is written, and read again.
func TestWild(t *testing.T) {
	r := rand.New(rand.NewSource(131))
	right := 0
	for range 100000 {
		l := make([]api.Node, r.Intn(4))
		for i := range l {
			l[i] = wildNode(r)
		}
		s, e := Print(l)
		if Right(l) != e || len(Selects(l)) > len(l) || !Same(l, l) {
			t.Fatalf("Right(%v)", l)
		}
		if e == api.OK {
			right++
			if again, _, _ := Parse(s); !Same(again, l) {
				t.Fatalf("%v is written %q", l, s)
			}
		} else if e != api.ErrQuery || s != "" {
			t.Fatalf("Print(%v) = %q, %d", l, s, e)
		}
	}
	if right < 100 {
		t.Errorf("only %d lists are right: the test tells little", right)
	}
}

// Nothing that is handed in is changed, and no answers share memory.
func TestMemory(t *testing.T) {
	s := `sum by (a, b) (up{a="1", b="2"}) + up{c="3"}`
	l, _, _ := Parse(s)
	as, _, _ := Parse(s)
	l[0].Match[0].Value = "x"
	l[1].By[0] = "x"
	_ = append(l[0].Match[:1], ma(1, "y", "y"))
	if again, _, _ := Parse(s); !Same(again, as) || Same(again, l) {
		t.Error("an answer is seen in another one")
	}
	if len(l) > 2 && l[2].Match[0].Value != "3" {
		t.Error("two lists of an answer share memory")
	}
	Print(as)
	Right(as)
	Selects(as)[0] = 7
	if again, _, _ := Parse(s); !Same(again, as) {
		t.Error("what is handed in is changed")
	}
}
