package metricq

import (
	"fmt"
	"slices"
	"strings"
	"testing"

	"belfry/api"
)

// Nodes of each kind.
func num(v int64) api.Node             { return api.Node{Kind: api.NNumber, V: v * api.One} }
func neg(a int) api.Node               { return api.Node{Kind: api.NNeg, A: a} }
func paren(a int) api.Node             { return api.Node{Kind: api.NParen, A: a} }
func call(name string, a int) api.Node { return api.Node{Kind: api.NCall, Name: name, A: a} }
func two(a, op, b int) api.Node        { return api.Node{Kind: api.NBinary, Op: op, A: a, B: b} }

func sel(name string, m ...api.Matcher) api.Node {
	return api.Node{Kind: api.NSelect, Name: name, Match: m}
}

func ranged(name string, span int64, m ...api.Matcher) api.Node {
	return api.Node{Kind: api.NSelect, Name: name, Match: m, Range: span}
}

func agg(name string, a int, by ...string) api.Node {
	return api.Node{Kind: api.NAgg, Name: name, A: a, By: by}
}

func ma(op int, key, value string) api.Matcher {
	return api.Matcher{Op: op, Key: key, Value: value}
}

// fault is what Parse answers of a text that is no query.
type fault struct {
	s  string
	e  api.Errno
	at int
}

func checkFaults(t *testing.T, l []fault) {
	t.Helper()
	for _, c := range l {
		if got, e, at := Parse(c.s); got != nil || e != c.e || at != c.at {
			t.Errorf("Parse(%q) = %v, %d, %d, want %d, %d", c.s, got, e, at, c.e, c.at)
		}
	}
}

// Example 1 of the chapter.
func TestExample(t *testing.T) {
	s := `sum by (env) (rate(http.requests{code="500"}[5m])) / 2`
	want := []api.Node{ranged("http.requests", 300000000000, ma(api.MEq, "code", "500")), call("rate", 0), agg("sum", 1, "env"), num(2), two(2, api.ODiv, 3)}
	if l, e, at := Parse(s); !Same(l, want) || e != api.OK || at != 0 {
		t.Errorf("Parse = %v, %d, %d", l, e, at)
	}
	if p, e := Print(want); p != s || e != api.OK {
		t.Errorf("Print = %q, %d", p, e)
	}
	checkFaults(t, []fault{{"up +", api.ErrQuery, 4}, {"1.", api.ErrToken, 0}, {"rate(up)", api.ErrQuery, 7}, {"up[5m]", api.ErrQuery, 2}})
}

// The table of the chapter: each form, its nodes, and how it is written. P13.5: blanks change nothing.
func TestForms(t *testing.T) {
	for _, c := range []struct {
		s, written string
		want       []api.Node
	}{
		{"0", "0", []api.Node{num(0)}},
		{"1.50", "1.5", []api.Node{{Kind: api.NNumber, V: 1500000}}},
		{"9223372036854.775807", "9223372036854.775807", []api.Node{{Kind: api.NNumber, V: 1<<63 - 1}}},
		{"0.000001", "0.000001", []api.Node{{Kind: api.NNumber, V: 1}}},
		{" \tup\t ", "up", []api.Node{sel("up")}},
		{"up{}", "up", []api.Node{sel("up")}},
		{"up { }", "up", []api.Node{sel("up")}},
		{"_a.B9.", "_a.B9.", []api.Node{sel("_a.B9.")}},
		{"sums", "sums", []api.Node{sel("sums")}},
		{"Sum", "Sum", []api.Node{sel("Sum")}},
		{"by.", "by.", []api.Node{sel("by.")}},
		{`"up"`, "up", []api.Node{sel("up")}},
		{`"sum"{}`, `"sum"`, []api.Node{sel("sum")}},
		{`"by"`, `"by"`, []api.Node{sel("by")}},
		{`"a b"`, `"a b"`, []api.Node{sel("a b")}},
		{`"9\"\\\n"`, `"9\"\\\n"`, []api.Node{sel("9\"\\\n")}},
		{`"-"`, `"-"`, []api.Node{sel("-")}},
		{`"é"{a="1"}`, `"é"{a="1"}`, []api.Node{sel("é", ma(1, "a", "1"))}},
		{`up{a="1",b!="",sum=~"x",a!~"\""}`, `up{a="1", b!="", sum=~"x", a!~"\""}`, []api.Node{sel("up", ma(1, "a", "1"), ma(2, "b", ""), ma(3, "sum", "x"), ma(4, "a", "\""))}},
		{"up\t{ by = \"1\" , by = \"1\" }", `up{by="1", by="1"}`, []api.Node{sel("up", ma(1, "by", "1"), ma(1, "by", "1"))}},
		{"sum(up)", "sum(up)", []api.Node{sel("up"), agg("sum", 0)}},
		{"min ( 1 )", "min(1)", []api.Node{num(1), agg("min", 0)}},
		{"max by(b,a.c)(up)", "max by (b, a.c) (up)", []api.Node{sel("up"), agg("max", 0, "b", "a.c")}},
		{"avg by ( sum , by ) ( up )", "avg by (sum, by) (up)", []api.Node{sel("up"), agg("avg", 0, "sum", "by")}},
		{"count(sum(up))", "count(sum(up))", []api.Node{sel("up"), agg("sum", 0), agg("count", 1)}},
		{"sum(1 + 2)", "sum(1 + 2)", []api.Node{num(1), num(2), two(0, 1, 1), agg("sum", 2)}},
		{"sum((up))", "sum((up))", []api.Node{sel("up"), paren(0), agg("sum", 1)}},
		{"rate(up[5m])", "rate(up[5m])", []api.Node{ranged("up", 300000000000), call("rate", 0)}},
		{"delta ( up { } [ 60s ] )", "delta(up[1m])", []api.Node{ranged("up", 60000000000), call("delta", 0)}},
		{`last("by"{a="]"}[1ns])`, `last("by"{a="]"}[1ns])`, []api.Node{ranged("by", 1, ma(1, "a", "]")), call("last", 0)}},
		{"1+2", "1 + 2", []api.Node{num(1), num(2), two(0, api.OAdd, 1)}},
		{"1-2", "1 - 2", []api.Node{num(1), num(2), two(0, api.OSub, 1)}},
		{"1*2", "1 * 2", []api.Node{num(1), num(2), two(0, api.OMul, 1)}},
		{"1/2", "1 / 2", []api.Node{num(1), num(2), two(0, api.ODiv, 1)}},
		{"-1", "-1", []api.Node{num(1), neg(0)}},
		{"- - up", "--up", []api.Node{sel("up"), neg(0), neg(1)}},
		{"(up)", "(up)", []api.Node{sel("up"), paren(0)}},
		{" ( ( 1 ) ) ", "((1))", []api.Node{num(1), paren(0), paren(1)}},
	} {
		checkForm(t, c.s, c.written, c.want)
	}
}

// parted puts blanks about signs.
var parted = strings.NewReplacer("+", "\t+ ", "-", " -\t", "*", " * ", "/", "\t/\t", "(", "  ( ", ")", " ) ")

// + and - bind weakest, then * and /, all to the left; then - ahead of one.
func TestBinding(t *testing.T) {
	for _, c := range []struct {
		s    string
		want []api.Node
	}{
		{"1 - 2 - 3", []api.Node{num(1), num(2), two(0, 2, 1), num(3), two(2, 2, 3)}},
		{"1 / 2 * 3", []api.Node{num(1), num(2), two(0, 4, 1), num(3), two(2, 3, 3)}},
		{"1 + 2 * 3", []api.Node{num(1), num(2), num(3), two(1, 3, 2), two(0, 1, 3)}},
		{"1 * 2 + 3", []api.Node{num(1), num(2), two(0, 3, 1), num(3), two(2, 1, 3)}},
		{"1 - 2 / 3 + 4", []api.Node{num(1), num(2), num(3), two(1, 4, 2), two(0, 2, 3), num(4), two(4, 1, 5)}},
		{"-1 * 2", []api.Node{num(1), neg(0), num(2), two(1, 3, 2)}},
		{"1 * -2", []api.Node{num(1), num(2), neg(1), two(0, 3, 2)}},
		{"1 - -2", []api.Node{num(1), num(2), neg(1), two(0, 2, 2)}},
		{"-1 - 2", []api.Node{num(1), neg(0), num(2), two(1, 2, 2)}},
		{"-(1 - 2)", []api.Node{num(1), num(2), two(0, 2, 1), paren(2), neg(3)}},
		{"(1 + 2) * 3", []api.Node{num(1), num(2), two(0, 1, 1), paren(2), num(3), two(3, 3, 4)}},
		{"-sum(1) / max(2)", []api.Node{num(1), agg("sum", 0), neg(1), num(2), agg("max", 3), two(2, 4, 4)}},
	} {
		checkForm(t, c.s, c.s, c.want)
		tight := strings.ReplaceAll(c.s, " ", "")
		checkForm(t, tight, c.s, c.want)
		checkForm(t, parted.Replace(tight), c.s, c.want)
	}
}

// checkForm holds Parse and Print to a text, its nodes, and how it is written.
func checkForm(t *testing.T, s, written string, want []api.Node) {
	t.Helper()
	l, e, at := Parse(s)
	if e != api.OK || at != 0 || !Same(l, want) {
		t.Errorf("Parse(%q) = %v, %d, %d, want %v", s, l, e, at, want)
	}
	if p, e := Print(want); p != written || e != api.OK {
		t.Errorf("%q is written %q, %d", s, p, e)
	}
	if e := Right(want); e != api.OK {
		t.Errorf("Right of the nodes of %q = %d", s, e)
	}
}

// P13.1: what begins and can not be, and signs that are none: ErrToken where it begins.
func TestTokens(t *testing.T) {
	long := strings.Repeat("k", 65)
	checkFaults(t, []fault{
		{"01", api.ErrToken, 0}, {" 00", api.ErrToken, 1}, {"1.2.3", api.ErrToken, 0}, {"1..2", api.ErrToken, 0}, {"up + 1.1234567", api.ErrToken, 5}, {"12345678901234", api.ErrToken, 0}, {"9223372036854.775808", api.ErrToken, 0}, {"9999999999999", api.ErrToken, 0},
		{".5", api.ErrToken, 0}, {"1 .5", api.ErrToken, 2}, {"(1.)", api.ErrToken, 1}, {"1. $", api.ErrToken, 0},
		{"$", api.ErrToken, 0}, {"up $", api.ErrToken, 3}, {"up%2", api.ErrToken, 2}, {"up\n", api.ErrToken, 2}, {"\r", api.ErrToken, 0}, {"é", api.ErrToken, 0}, {"upé", api.ErrToken, 2}, {"\x00", api.ErrToken, 0}, {"1 ^ 2", api.ErrToken, 2}, {"a:b", api.ErrToken, 1}, {"'up'", api.ErrToken, 0}, {"~", api.ErrToken, 0}, {"!", api.ErrToken, 0}, {"up ! 2", api.ErrToken, 3}, {"1 ! =", api.ErrToken, 2}, {"|", api.ErrToken, 0}, {"a < b", api.ErrToken, 2},
		{`"`, api.ErrToken, 0}, {`"up`, api.ErrToken, 0}, {`  "up\`, api.ErrToken, 2}, {`"up\"`, api.ErrToken, 0}, {`"\t"`, api.ErrToken, 0}, {"\"\n\"", api.ErrToken, 0}, {`1 + "a\x"`, api.ErrToken, 4},
		{`""`, api.ErrToken, 0}, {`sum("")`, api.ErrToken, 4}, {`rate(""[5m])`, api.ErrToken, 5}, {"\"\xff\"", api.ErrToken, 0}, {`"` + strings.Repeat("v", 257) + `"`, api.ErrToken, 0}, {`1 + "` + strings.Repeat("é", 129) + `"`, api.ErrToken, 4},
		{`up{` + long + `="1"}`, api.ErrToken, 3}, {`up{a="1", ` + long + `}`, api.ErrToken, 10}, {"up{a=\"\xff\"}", api.ErrToken, 5}, {`up{a =~ "` + strings.Repeat("v", 257) + `"}`, api.ErrToken, 8},
		{`up{a="1}`, api.ErrToken, 5}, {`up{a="\x"}`, api.ErrToken, 5}, {`up{a!"1"}`, api.ErrToken, 4}, {`up{a! ="1"}`, api.ErrToken, 4}, {`up{a= ~"1"}`, api.ErrToken, 6}, {`up{a~"1"}`, api.ErrToken, 4}, {`up{a:"1"}`, api.ErrToken, 4}, {`up{$`, api.ErrToken, 3}, {`up{a=$`, api.ErrToken, 5}, {`up{a=01}`, api.ErrToken, 5}, {`up{a='1'}`, api.ErrToken, 5},
		{"sum by (" + long + ") (up)", api.ErrToken, 8}, {"sum by (a, a) (up)", api.ErrToken, 11}, {"sum by (a, b, c, b, c) (up)", api.ErrToken, 17}, {"sum by (a; b) (up)", api.ErrToken, 9}, {"sum by (a, 01)", api.ErrToken, 11},
		{"rate(up[5x])", api.ErrToken, 8}, {"rate(up[ 5])", api.ErrToken, 9}, {"rate(up[5 m])", api.ErrToken, 8}, {"rate(up[0s])", api.ErrToken, 8}, {"rate(up[05m])", api.ErrToken, 8}, {"rate(up[5m5])", api.ErrToken, 8}, {"rate(up[1.5m])", api.ErrToken, 8}, {"rate(up[1h30m])", api.ErrToken, 8}, {"rate(up[313h])", api.ErrToken, 8}, {"rate(up[1234567890ns])", api.ErrToken, 8}, {"rate(up[999999999h])", api.ErrToken, 8}, {"rate(up[5", api.ErrToken, 8}, {"rate(up[$])", api.ErrToken, 8}, {`rate(up["5m])`, api.ErrToken, 8},
	})
}

// P13.1: at one place ErrToken is told ahead of ErrQuery.
func TestTokenAheadOfQuery(t *testing.T) {
	checkFaults(t, []fault{
		{"up 01", api.ErrToken, 3}, {"up 1", api.ErrQuery, 3}, {`up "x`, api.ErrToken, 3}, {`up "x"`, api.ErrQuery, 3}, {`up ""`, api.ErrQuery, 3}, {"sum by 1.", api.ErrToken, 7}, {"sum by 1", api.ErrQuery, 7}, {`rate(up["x"])`, api.ErrQuery, 8}, {"rate 1.", api.ErrToken, 5}, {`up{"x`, api.ErrToken, 3}, {`up{"x"`, api.ErrQuery, 3},
	})
}

// P13.1: what can not stand: ErrQuery at its place, or at the end.
func TestQueries(t *testing.T) {
	checkFaults(t, []fault{
		{"", api.ErrQuery, 0}, {" \t ", api.ErrQuery, 3}, {"+", api.ErrQuery, 0}, {"+ 1", api.ErrQuery, 0}, {"*", api.ErrQuery, 0}, {"-", api.ErrQuery, 1}, {"- ", api.ErrQuery, 2}, {"1 +", api.ErrQuery, 3}, {"1 + ", api.ErrQuery, 4}, {"1 + * 2", api.ErrQuery, 4}, {"1 * + 2", api.ErrQuery, 4}, {"1 2", api.ErrQuery, 2}, {"1a", api.ErrQuery, 1}, {"5m", api.ErrQuery, 1}, {"up up", api.ErrQuery, 3}, {`up"x"`, api.ErrQuery, 2}, {"1.5 .", api.ErrToken, 4},
		{"(", api.ErrQuery, 1}, {"()", api.ErrQuery, 1}, {"(1", api.ErrQuery, 2}, {"(1 ", api.ErrQuery, 3}, {"1)", api.ErrQuery, 1}, {"(1))", api.ErrQuery, 3}, {"(1]", api.ErrQuery, 2}, {"(1,2)", api.ErrQuery, 2}, {")", api.ErrQuery, 0}, {",", api.ErrQuery, 0}, {"[", api.ErrQuery, 0}, {"]", api.ErrQuery, 0}, {"{", api.ErrQuery, 0}, {`{a="1"}`, api.ErrQuery, 0}, {"}", api.ErrQuery, 0}, {"=", api.ErrQuery, 0}, {"1 = 2", api.ErrQuery, 2}, {"1 != 2", api.ErrQuery, 2}, {"1 =~ 2", api.ErrQuery, 2}, {"1 !~ 2", api.ErrQuery, 2},
		{"sum", api.ErrQuery, 3}, {"sum ", api.ErrQuery, 4}, {"sum + 1", api.ErrQuery, 4}, {"sum{}", api.ErrQuery, 3}, {"sum up", api.ErrQuery, 4}, {"sum()", api.ErrQuery, 4}, {"sum(up", api.ErrQuery, 6}, {"sum(1 2)", api.ErrQuery, 6}, {"sum(up, up)", api.ErrQuery, 6}, {"sum(up) by (a)", api.ErrQuery, 8}, {"sum sum(up)", api.ErrQuery, 4}, {"sum(sum)", api.ErrQuery, 7}, {"sum(up[5m])", api.ErrQuery, 6},
		{"by", api.ErrQuery, 0}, {"by (a)", api.ErrQuery, 0}, {"sum by", api.ErrQuery, 6}, {"sum by a (up)", api.ErrQuery, 7}, {"sum by (", api.ErrQuery, 8}, {"sum by () (up)", api.ErrQuery, 8}, {"sum by (1) (up)", api.ErrQuery, 8}, {`sum by ("a") (up)`, api.ErrQuery, 8}, {"sum by (a", api.ErrQuery, 9}, {"sum by (a b) (up)", api.ErrQuery, 10}, {"sum by (a,) (up)", api.ErrQuery, 10}, {"sum by (,a) (up)", api.ErrQuery, 8}, {"sum by (a,,b) (up)", api.ErrQuery, 10}, {"sum by (a)", api.ErrQuery, 10}, {"sum by (a) up", api.ErrQuery, 11}, {"sum by (a) by (b) (up)", api.ErrQuery, 11}, {"sum by (a) ()", api.ErrQuery, 12}, {"sum By (a) (up)", api.ErrQuery, 4}, {`sum "by" (a) (up)`, api.ErrQuery, 4},
		{"rate", api.ErrQuery, 4}, {"rate up", api.ErrQuery, 5}, {"rate(", api.ErrQuery, 5}, {"rate()", api.ErrQuery, 5}, {"rate(1[5m])", api.ErrQuery, 5}, {"rate((up[5m]))", api.ErrQuery, 5}, {"rate(-up[5m])", api.ErrQuery, 5}, {"rate(sum[5m])", api.ErrQuery, 5}, {"rate(by[5m])", api.ErrQuery, 5}, {"rate(last(up[5m])[5m])", api.ErrQuery, 5}, {"rate({}[5m])", api.ErrQuery, 5}, {"rate(up", api.ErrQuery, 7}, {"rate(up{})", api.ErrQuery, 9}, {"rate(up + 1)", api.ErrQuery, 8}, {"rate by (a) (up[5m])", api.ErrQuery, 5}, {"rate(up)[5m]", api.ErrQuery, 7},
		{"rate(up[", api.ErrQuery, 8}, {"rate(up[]", api.ErrQuery, 8}, {"rate(up[m])", api.ErrQuery, 8}, {"rate(up[-5m])", api.ErrQuery, 8}, {`rate(up["5m"])`, api.ErrQuery, 8}, {"rate(up[5m", api.ErrQuery, 10}, {"rate(up[5m)", api.ErrQuery, 10}, {"rate(up[5m 5m])", api.ErrQuery, 11}, {"rate(up[5m]", api.ErrQuery, 11}, {"rate(up[5m] + 1)", api.ErrQuery, 12}, {"rate(up[5m][5m])", api.ErrQuery, 11}, {"rate(up[5m]{})", api.ErrQuery, 11}, {"rate(up[5m]) up", api.ErrQuery, 13},
		{"up{", api.ErrQuery, 3}, {"up{,}", api.ErrQuery, 3}, {"up{a", api.ErrQuery, 4}, {"up{a}", api.ErrQuery, 4}, {"up{a=", api.ErrQuery, 5}, {"up{a=1}", api.ErrQuery, 5}, {"up{a=b}", api.ErrQuery, 5}, {`up{a=="1"}`, api.ErrQuery, 5}, {`up{a"1"}`, api.ErrQuery, 4}, {`up{a-b="1"}`, api.ErrQuery, 4}, {`up{a b="1"}`, api.ErrQuery, 5}, {`up{1="1"}`, api.ErrQuery, 3}, {`up{"a"="1"}`, api.ErrQuery, 3}, {`up{="1"}`, api.ErrQuery, 3}, {`up{a="1"`, api.ErrQuery, 8}, {`up{a="1" b="2"}`, api.ErrQuery, 9}, {`up{a="1",`, api.ErrQuery, 9}, {`up{a="1",}`, api.ErrQuery, 9}, {`up{a="1",,b="2"}`, api.ErrQuery, 9}, {`up{a="1")`, api.ErrQuery, 8}, {`up{}{}`, api.ErrQuery, 4}, {`up{a="1"}{b="2"}`, api.ErrQuery, 9}, {`up{}"x"`, api.ErrQuery, 4}, {`1{a="1"}`, api.ErrQuery, 1}, {`(up){a="1"}`, api.ErrQuery, 4},
	})
}

// P13.1: the first fault from the left is told, whichever it is.
func TestFirstFault(t *testing.T) {
	deep := strings.Repeat("(", 17)
	checkFaults(t, []fault{
		{"1 2 $", api.ErrQuery, 2}, {"$ 1 2", api.ErrToken, 0}, {"by $", api.ErrQuery, 0}, {`"" $`, api.ErrToken, 0}, {`up{a="1" x "x`, api.ErrQuery, 9}, {"sum by (a, a $", api.ErrToken, 11}, {"rate(up[5x $", api.ErrToken, 8}, {"rate(up) $", api.ErrQuery, 7}, {deep + "$", api.ErrDeep, 16}, {deep[1:] + "$" + deep, api.ErrToken, 16}, {deep[1:] + ")" + deep, api.ErrQuery, 16}, {"$" + deep, api.ErrToken, 0},
		{"1 = $", api.ErrQuery, 2}, {"sum(sum by $", api.ErrToken, 11}, {`up{` + strings.Repeat("k", 65) + ` $`, api.ErrToken, 3}, {`up{a="` + strings.Repeat("v", 257) + `"$`, api.ErrToken, 5},
	})
}

// P13.1: as many matchers and keys as there may be, and one more: ErrToken where it begins.
func TestMany(t *testing.T) {
	var keys, matchers []string
	for i := range api.MaxAttrs {
		keys = append(keys, fmt.Sprint("k", i))
	}
	for range api.MaxMatch {
		matchers = append(matchers, `a!=""`)
	}
	most := "sum by (" + strings.Join(keys, ", ") + ") (up{" + strings.Join(matchers, ", ") + "})"
	l, e, _ := Parse(most)
	if e != api.OK || len(l) != 2 || len(l[0].Match) != 8 || len(l[1].By) != 16 {
		t.Fatalf("Parse(%q) = %v, %d", most, l, e)
	}
	if s, e := Print(l); s != most || e != api.OK {
		t.Errorf("Print = %q, %d", s, e)
	}
	ahead := "sum by (" + strings.Join(keys, ", ") + ", "
	within := "up{" + strings.Join(matchers, ", ") + ", "
	checkFaults(t, []fault{
		{ahead + "x) (up)", api.ErrToken, len(ahead)}, {ahead + "k0", api.ErrToken, len(ahead)}, {ahead + ")", api.ErrQuery, len(ahead)}, {ahead, api.ErrQuery, len(ahead)}, {ahead + "1", api.ErrQuery, len(ahead)},
		{within + `a=""}`, api.ErrToken, len(within)}, {within + "a", api.ErrToken, len(within)}, {within + "}", api.ErrQuery, len(within)}, {within, api.ErrQuery, len(within)}, {within + "a $", api.ErrToken, len(within)},
	})
}

// P13.1: within MaxNest parentheses and - ahead of one none may open.
func TestDeep(t *testing.T) {
	rep := strings.Repeat
	for _, s := range []string{
		rep("(", 16) + "1" + rep(")", 16), rep("-", 16) + "1", rep("- ", 16) + "up{}", rep("-(", 8) + "1" + rep(")", 8), rep("sum(", 16) + "1" + rep(")", 16), rep("(", 15) + "sum by (a) (1)" + rep(")", 15), rep("(", 15) + "rate(up[5m])" + rep(")", 15), rep("-", 15) + "sum(1)", rep("sum by (a) (", 16) + "1" + rep(")", 16),
		rep("-", 15) + "1 - -1 - (1) - " + rep("-", 16) + "1", rep("(", 15) + "-1 - -1 * (1) + sum(1) - -1" + rep(")", 15), rep("(1) * -1 + ", 16) + "1", "-(1) - " + rep("-", 15) + "(1)", rep("(", 16) + "1 - 1" + rep(")", 16),
	} {
		l, e, at := Parse(s)
		if e != api.OK || at != 0 {
			t.Errorf("Parse(%q) = %d, %d", s, e, at)
		}
		if Right(l) != api.OK {
			t.Errorf("the nodes of %q are not right", s)
		}
	}
	checkFaults(t, []fault{
		{rep("(", 17) + "1" + rep(")", 17), api.ErrDeep, 16}, {rep("(", 17), api.ErrDeep, 16}, {rep("(", 1000), api.ErrDeep, 16}, {rep("-", 17) + "1", api.ErrDeep, 16}, {rep("-", 1000), api.ErrDeep, 16}, {rep("- ", 20), api.ErrDeep, 32}, {rep("-(", 8) + "-1", api.ErrDeep, 16}, {rep("-(", 9), api.ErrDeep, 16}, {rep("(-", 9), api.ErrDeep, 16}, {rep("-", 16) + "(1)", api.ErrDeep, 16}, {rep("-", 16) + "sum(1)", api.ErrDeep, 19},
		{rep("sum(", 17), api.ErrDeep, 67}, {rep("(", 16) + "sum(1)", api.ErrDeep, 19}, {rep("(", 16) + "sum by (a) (1)", api.ErrDeep, 23}, {rep("(", 16) + "rate(up[5m])", api.ErrDeep, 20}, {rep("(", 16) + "1 + (1)", api.ErrDeep, 20}, {rep("(", 16) + "1 - -1", api.ErrDeep, 20}, {rep("(", 16) + "up(", api.ErrQuery, 18}, {rep("(", 16) + "sum by 1", api.ErrQuery, 23}, {rep("-(", 8) + "1 + (", api.ErrDeep, 20}, {rep("-", 17) + "$", api.ErrDeep, 16},
		{rep("sum by (a) (", 17), api.ErrDeep, 12*16 + 7},
	})
}

// P13.1: MaxLine bytes may be, one more is too long, whatever they are.
func TestSize(t *testing.T) {
	if l, e, at := Parse("1" + strings.Repeat(" ", api.MaxLine-1)); !Same(l, []api.Node{num(1)}) || e != api.OK || at != 0 {
		t.Errorf("Parse of MaxLine bytes = %v, %d, %d", l, e, at)
	}
	long := strings.Repeat("a", api.MaxLine)
	if l, e, _ := Parse(long); !Same(l, []api.Node{sel(long)}) || e != api.OK || Right(l) != api.OK {
		t.Errorf("Parse of a long name = %d nodes, %d", len(l), e)
	}
	checkFaults(t, []fault{
		{"1" + strings.Repeat(" ", api.MaxLine), api.ErrSize, 0}, {long + "a", api.ErrSize, 0}, {strings.Repeat("$", api.MaxLine+1), api.ErrSize, 0}, {strings.Repeat("(", 100000), api.ErrSize, 0},
		{strings.Repeat(" ", api.MaxLine), api.ErrQuery, api.MaxLine}, {strings.Repeat(" ", api.MaxLine-1) + "$", api.ErrToken, api.MaxLine - 1},
	})
}

// P13.1: MaxNodes nodes may be, and a text of MaxLine bytes; more are told behind all other faults.
func TestFull(t *testing.T) {
	chain := func(n int) string { return "1" + strings.Repeat("+1", n-1) }
	if l, e, _ := Parse("-" + chain(50)); len(l) != 100 || e != api.OK || Right(l) != api.OK {
		t.Errorf("Parse of 100 nodes = %d, %d", len(l), e)
	}
	wide := strings.Repeat("a", 301) + "+" + strings.Repeat("b", 300) + "+" + strings.Repeat("c", 417)
	if l, e, _ := Parse(wide); len(l) != 5 || e != api.OK || len(text(l)) != api.MaxLine {
		t.Errorf("Parse of what is written with MaxLine bytes = %d, %d", len(l), e)
	}
	if s, e := Print([]api.Node{sel(wide[:301]), sel(wide[302:602]), two(0, 1, 1), sel(wide[603:]), two(2, 1, 3)}); len(s) != api.MaxLine || e != api.OK {
		t.Errorf("Print of MaxLine bytes = %d, %d", len(s), e)
	}
	checkFaults(t, []fault{
		{chain(51), api.ErrFull, 0}, {"--" + chain(50), api.ErrFull, 0}, {chain(500), api.ErrFull, 0}, {"a" + wide, api.ErrFull, 0}, {"(" + wide + ")", api.ErrFull, 0},
		{chain(51) + " $", api.ErrToken, 102}, {chain(51) + " 1", api.ErrQuery, 102}, {chain(51) + "+", api.ErrQuery, 102}, {chain(51) + "+" + strings.Repeat("(", 17), api.ErrDeep, 118}, {"a" + wide + ")", api.ErrQuery, len(wide) + 1},
	})
}

// P13.5: parentheses about the whole are one node more. P13.6: so is a - ahead of it in parentheses; two queries with an operator between are their nodes and those more.
func TestTogether(t *testing.T) {
	list := []string{"1", "up", `up{a="1"}`, "1 + 2 * 3", "-up", "sum by (a) (up)", "rate(up[5m]) / 2", "(1)"}
	for _, a := range list {
		la, _, _ := Parse(a)
		in := append(slices.Clone(la), paren(len(la)-1))
		checkForm(t, "("+a+")", "("+a+")", in)
		checkForm(t, "-("+a+")", "-("+a+")", append(slices.Clone(in), neg(len(in)-1)))
		for _, b := range list {
			lb, _, _ := Parse(b)
			for op := api.OAdd; op <= api.ODiv; op++ {
				want := slices.Clone(in)
				want = append(want, moved(lb, len(in))...)
				want = append(want, paren(len(want)-1))
				want = append(want, two(len(in)-1, op, len(want)-1))
				s := "(" + a + ") " + "+-*/"[op-1:op] + " (" + b + ")"
				checkForm(t, s, s, want)
			}
		}
	}
}

// moved are nodes as they are behind n others.
func moved(l []api.Node, n int) []api.Node {
	l = slices.Clone(l)
	for i := range l {
		switch l[i].Kind {
		case api.NBinary:
			l[i].A += n
			l[i].B += n
		case api.NAgg, api.NCall, api.NNeg, api.NParen:
			l[i].A += n
		}
	}
	return l
}
