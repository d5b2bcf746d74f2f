package grant

import (
	"math"
	"math/rand"
	"regexp"
	"slices"
	"strconv"
	"strings"
	"testing"
	"unicode/utf8"

	"belfry/api"
	"belfry/attr"
)

func eq(key, value string) api.Matcher { return api.Matcher{Op: api.MEq, Key: key, Value: value} }

func match(l ...api.Matcher) []api.Matcher { return l }

// plain is a grant that can be.
func plain() api.Grant {
	return api.Grant{Id: 1, From: "acme", To: "globex", Until: 100}
}

// changed is a grant that can be, but for a change.
func changed(change func(*api.Grant)) api.Grant {
	g := plain()
	change(&g)
	return g
}

// P12.1: grants that can be, at the edges.
func TestRight(t *testing.T) {
	for i, g := range []api.Grant{
		plain(),
		changed(func(g *api.Grant) { g.Id = 1 << 53 }),
		changed(func(g *api.Grant) { g.Parent = 2 }),
		changed(func(g *api.Grant) { g.Parent = 1 << 53 }),
		changed(func(g *api.Grant) { g.Id, g.Parent = 1<<53, 1<<53-1 }),
		changed(func(g *api.Grant) { g.From, g.To = "a", strings.Repeat("a", 32) }),
		changed(func(g *api.Grant) { g.Kind = 1 }),
		changed(func(g *api.Grant) { g.Kind = 3 }),
		changed(func(g *api.Grant) { g.Scope = match() }),
		changed(func(g *api.Grant) { g.Scope = slices.Repeat(match(eq("a", "")), 8) }),
		changed(func(g *api.Grant) { g.Until = 0 }),
		changed(func(g *api.Grant) { g.Until = api.MaxTime }),
		changed(func(g *api.Grant) { g.Depth = 3 }),
	} {
		if e := Right(g); e != api.OK {
			t.Errorf("%d: Right(%v) = %d", i, g, e)
		}
	}
}

// P12.1: what is wrong, each fault ahead of those that are named behind it. Line tells the same error, and no text.
func TestRightErrors(t *testing.T) {
	bad := func(change func(*api.Grant)) api.Grant { // all that can be wrong is wrong
		g := api.Grant{Id: 0, Parent: -1, From: "A", To: "A", Kind: 4, Scope: slices.Repeat(match(api.Matcher{}), 9), Until: -1, Depth: 4}
		change(&g)
		return g
	}
	number := func(g *api.Grant) { g.Id, g.Parent = 7, 0 }
	name := func(g *api.Grant) { number(g); g.From, g.To = "a", "a" }
	names := func(g *api.Grant) { name(g); g.To = "b" }
	kind := func(g *api.Grant) { names(g); g.Kind = 3 }
	fewer := func(g *api.Grant) { kind(g); g.Scope = g.Scope[:8] }
	scope := func(g *api.Grant) { kind(g); g.Scope = nil }
	until := func(g *api.Grant) { scope(g); g.Until = 5 }
	for i, c := range []struct {
		g api.Grant
		e api.Errno
	}{
		{api.Grant{}, api.ErrGrant},
		{bad(func(g *api.Grant) {}), api.ErrGrant},
		{bad(func(g *api.Grant) { number(g); g.Id = 0 }), api.ErrGrant},
		{bad(func(g *api.Grant) { number(g); g.Id = -7 }), api.ErrGrant},
		{bad(func(g *api.Grant) { number(g); g.Id = 1<<53 + 1 }), api.ErrGrant},
		{bad(func(g *api.Grant) { number(g); g.Id = math.MaxInt64 }), api.ErrGrant},
		{bad(func(g *api.Grant) { number(g); g.Id = math.MinInt64 }), api.ErrGrant},
		{bad(func(g *api.Grant) { number(g); g.Parent = -1 }), api.ErrGrant},
		{bad(func(g *api.Grant) { number(g); g.Parent = 1<<53 + 1 }), api.ErrGrant},
		{bad(func(g *api.Grant) { number(g); g.Parent = math.MinInt64 }), api.ErrGrant},
		{bad(func(g *api.Grant) { number(g); g.Parent = 7 }), api.ErrGrant},
		{bad(number), api.ErrIdent},
		{bad(func(g *api.Grant) { name(g); g.From = "" }), api.ErrIdent},
		{bad(func(g *api.Grant) { name(g); g.To = "" }), api.ErrIdent},
		{bad(func(g *api.Grant) { name(g); g.To = "*" }), api.ErrIdent},
		{bad(func(g *api.Grant) { name(g); g.From = strings.Repeat("a", 33) }), api.ErrIdent},
		{bad(name), api.ErrGrant},
		{bad(names), api.ErrArg},
		{bad(func(g *api.Grant) { names(g); g.Kind = -1 }), api.ErrArg},
		{bad(kind), api.ErrFull},
		{bad(fewer), api.ErrOp},
		{bad(func(g *api.Grant) { fewer(g); g.Scope[0].Op = 1 }), api.ErrKey},
		{bad(func(g *api.Grant) { fewer(g); g.Scope[0] = eq("a", "\xff") }), api.ErrValue},
		{bad(scope), api.ErrArg},
		{bad(func(g *api.Grant) { scope(g); g.Depth = 0 }), api.ErrArg},
		{bad(func(g *api.Grant) { scope(g); g.Depth, g.Until = 0, api.MaxTime+1 }), api.ErrArg},
		{bad(until), api.ErrArg},
		{bad(func(g *api.Grant) { until(g); g.Depth = -1 }), api.ErrArg},
		{bad(func(g *api.Grant) { until(g); g.Depth = math.MaxInt }), api.ErrArg},
		{bad(func(g *api.Grant) { until(g); g.Depth = 3 }), api.OK},
	} {
		if e := Right(c.g); e != c.e {
			t.Errorf("%d: Right(%v) = %d, want %d", i, c.g, e, c.e)
		}
		if s, e := Line(c.g); e != c.e || (s == "") != (e != api.OK) {
			t.Errorf("%d: Line(%v) = %q, %d, want %d", i, c.g, s, e, c.e)
		}
	}
}

// P12.1: each field is held against the other one's.
func TestSame(t *testing.T) {
	a := api.Grant{Id: 1, Parent: 2, From: "a", To: "b", Kind: 1, Scope: match(eq("a", "1"), eq("b", "2")), Until: 5, Depth: 1}
	if !Same(a, clone(a)) || !Same(api.Grant{}, api.Grant{Scope: match()}) {
		t.Error("the same grants are not the same")
	}
	for i, change := range []func(*api.Grant){
		func(g *api.Grant) { g.Id = 3 },
		func(g *api.Grant) { g.Parent = 0 },
		func(g *api.Grant) { g.From = "c" },
		func(g *api.Grant) { g.To = "c" },
		func(g *api.Grant) { g.Kind = 0 },
		func(g *api.Grant) { g.Scope = nil },
		func(g *api.Grant) { g.Scope[1].Op = api.MNe },
		func(g *api.Grant) { slices.Reverse(g.Scope) },
		func(g *api.Grant) { g.Until = 6 },
		func(g *api.Grant) { g.Depth = 0 },
	} {
		b := clone(a)
		change(&b)
		if Same(a, b) || Same(b, a) {
			t.Errorf("%d: %v is the same as %v", i, b, a)
		}
	}
}

// P12.1, P12.5: texts, and what they say.
func TestText(t *testing.T) {
	for s, want := range map[string]api.Grant{
		"grant 1 from acme to globex any until 100 depth 0":                                                    plain(),
		`grant 1 from acme to globex logs until 100 depth 1 where {env="prod"}`:                                {Id: 1, From: "acme", To: "globex", Kind: api.KLine, Until: 100, Depth: 1, Scope: match(eq("env", "prod"))},
		"grant 2 from globex to initech logs until 90 depth 0 under 1":                                         {Id: 2, Parent: 1, From: "globex", To: "initech", Kind: api.KLine, Until: 90},
		`grant 9 from a to b traces until 0 depth 3 under 10 where {b!="", a=~"x y"}`:                          {Id: 9, Parent: 10, From: "a", To: "b", Kind: api.KSpan, Depth: 3, Scope: match(api.Matcher{Op: api.MNe, Key: "b"}, api.Matcher{Op: api.MHas, Key: "a", Value: "x y"})},
		"grant 9007199254740992 from to to from metrics until 1125899906842624 depth 2 under 9007199254740991": {Id: 1 << 53, Parent: 1<<53 - 1, From: "to", To: "from", Kind: api.KPoint, Until: api.MaxTime, Depth: 2},
		`grant 1 from a to b any until 1 depth 0 where {a!~"\"}\\\n under 5"}`:                                 {Id: 1, From: "a", To: "b", Until: 1, Scope: match(api.Matcher{Op: api.MNot, Key: "a", Value: "\"}\\\n under 5"})},
	} {
		if l, e := Line(want); l != s || e != api.OK {
			t.Errorf("Line(%v) = %q, %d", want, l, e)
		}
		if g, e := Parse(s); !Same(g, want) || e != api.OK {
			t.Errorf("Parse(%q) = %v, %d", s, g, e)
		}
	}
}

// P12.1: texts that are not those of a grant, as it is written.
func TestParseNoGrant(t *testing.T) {
	const ok = "grant 1 from a to b any until 5 depth 0"
	for _, s := range []string{
		"", " ", "grant", "grant ", "grant 1", "grant 1 from", "grant 1 from a", "grant 1 from a to", "grant 1 from a to b", "grant 1 from a to b any", "grant 1 from a to b any until", "grant 1 from a to b any until 5", "grant 1 from a to b any until 5 depth", "grant 1 from a to b any until 5 depth ",
		" " + ok, ok + " ", ok + "\n", ok + "\r", "\n" + ok, ok + "  ", "#" + ok, "Grant 1 from a to b any until 5 depth 0", "1 from a to b any until 5 depth 0", "grant  1 from a to b any until 5 depth 0", "grant 1  from a to b any until 5 depth 0", "grant 1 from  a to b any until 5 depth 0", "grant 1 from a to b  any until 5 depth 0", "grant\t1 from a to b any until 5 depth 0",
		"grant 1 from  to b any until 5 depth 0", "grant 1 to b from a any until 5 depth 0", "grant 1 from a to b until 5 depth 0", "grant 1 from a to b any depth 0 until 5", "grant 1 from a to b until 5 any depth 0",
		"grant 01 from a to b any until 5 depth 0", "grant +1 from a to b any until 5 depth 0", "grant -1 from a to b any until 5 depth 0", "grant 1a from a to b any until 5 depth 0", "grant x from a to b any until 5 depth 0", "grant 0 from a to b any until 5 depth 0", "grant 00 from a to b any until 5 depth 0",
		"grant 1 from a to b any until 05 depth 0", "grant 1 from a to b any until -5 depth 0", "grant 1 from a to b any until 00 depth 0", "grant 1 from a to b any until x depth 0", "grant 1 from a to b any until 5 depth 00", "grant 1 from a to b any until 5 depth -1", "grant 1 from a to b any until 5 depth 1.0",
		"grant 10000000000000000 from a to b any until 5 depth 0", "grant 9007199254740993 from a to b any until 5 depth 0", "grant 1 from a to b any until 10000000000000000 depth 0", "grant 1 from a to b any until 5 depth 10000000000000000", ok + " under 10000000000000000", "grant 99999999999999999999999 from a to b any until 5 depth 0",
		"grant 1 from A to b any until 10000000000000000 depth 0", // ahead of what Right says of it
		"grant 1 from a to a any until 5 depth 0", "grant 1 from a to b Any until 5 depth 0", "grant 1 from a to b log until 5 depth 0", "grant 1 from a to b 0 until 5 depth 0", "grant 1 from A to b x until 5 depth 0",
		ok + " under", ok + " under ", ok + " under 0", ok + " under 02", ok + " under -2", ok + " under 1", ok + " under x", ok + " under 2 under 3", ok + " under 2 ", ok + " under 9007199254740993",
		ok + " where", ok + " where ", ok + " where {}", ok + ` where {a="1"} `, ok + ` where { a="1"}`, ok + ` where {a="1",b="2"}`, ok + ` where {a = "1"}`, ok + ` where {1="1"}`, ok + ` where {a=1}`, ok + ` where {a="1"`, ok + ` where {a="1"} under 2`, ok + ` where {a="1"} where {a="1"}`, ok + ` where  {a="1"}`, ok + `where {a="1"}`, ok + ` hide a`,
	} {
		if g, e := Parse(s); !Same(g, api.Grant{}) || e != api.ErrGrant {
			t.Errorf("Parse(%q) = %v, %d", s, g, e)
		}
	}
}

// P12.1: texts of grants that can not be: Right's error, in its order.
func TestParseRight(t *testing.T) {
	nine := " where {" + strings.Repeat(`b="x", `, 8) + `b="x"}`
	for _, c := range []struct {
		s string
		e api.Errno
	}{
		{"grant 0 from A to b any until 9999999999999999 depth 9" + nine, api.ErrGrant},
		{"grant 9007199254740993 from A to b any until 5 depth 9" + nine, api.ErrGrant},
		{"grant 1 from A to b any until 5 depth 9 under 1" + nine, api.ErrGrant},
		{"grant 1 from A to A any until 5 depth 9" + nine, api.ErrIdent},
		{"grant 1 from a to * any until 5 depth 9" + nine, api.ErrIdent},
		{"grant 1 from a to " + strings.Repeat("b", 33) + " any until 5 depth 0", api.ErrIdent},
		{"grant 1 from a to b\xff any until 5 depth 0", api.ErrIdent},
		{"grant 1 from a to a any until 5 depth 9" + nine, api.ErrGrant},
		{"grant 1 from a to b any until 5 depth 9" + nine, api.ErrFull},
		{"grant 1 from a to b any until 5 depth 9 where {" + strings.Repeat("k", 65) + `="x"}`, api.ErrKey},
		{"grant 1 from a to b any until 5 depth 9 where {b=\"\xff\"}", api.ErrValue},
		{`grant 1 from a to b any until 5 depth 9 where {b="` + strings.Repeat("v", 257) + `"}`, api.ErrValue},
		{"grant 1 from a to b any until 5 depth 4", api.ErrArg},
		{"grant 1 from a to b any until 5 depth 9999999999999999", api.ErrArg},
		{"grant 1 from a to b any until 1125899906842625 depth 0", api.ErrArg},
		{"grant 1 from a to b any until 9999999999999999 depth 0", api.ErrArg},
	} {
		if g, e := Parse(c.s); !Same(g, api.Grant{}) || e != c.e {
			t.Errorf("Parse(%q) = %v, %d, want %d", c.s, g, e, c.e)
		}
	}
}

// P12.1: MaxText bytes are read, one more is too long, whatever they are.
func TestParseSize(t *testing.T) {
	ok := `grant 1 from a to b any until 5 depth 0 where {a="`
	most := ok + strings.Repeat("x", api.MaxText-len(ok)-2) + `"}`
	if _, e := Parse(most); e != api.ErrValue {
		t.Errorf("Parse of MaxText bytes = %d", e)
	}
	for _, s := range []string{most + " ", strings.Repeat(" ", api.MaxText+1), "grant " + strings.Repeat("1", 3*api.MaxText)} {
		if g, e := Parse(s); !Same(g, api.Grant{}) || e != api.ErrSize {
			t.Errorf("Parse of %d bytes = %v, %d", len(s), g, e)
		}
	}
	if _, e := Parse(strings.Repeat(" ", api.MaxText)); e != api.ErrGrant {
		t.Errorf("Parse of MaxText blanks = %d", e)
	}
}

const (
	item   = `([a-zA-Z_][a-zA-Z0-9_.]*)(=~|=|!=|!~)("(?:[^"\\\n]|\\["\\n])*")`
	number = `(0|[1-9][0-9]{0,15})`
)

var (
	textForm = regexp.MustCompile(`(?s)^grant ` + number + ` from ([^ ]+) to ([^ ]+) (any|metrics|logs|traces) until ` + number + ` depth ` + number + `(?: under ([1-9][0-9]{0,15}))?(?: where \{(` + item + `(?:, ` + item + `)*)\})?$`)
	itemForm = regexp.MustCompile(`(?s)` + item)
	nameForm = regexp.MustCompile(`^[a-z][a-z0-9-]{0,31}$`)
	keyForm  = regexp.MustCompile(`^[a-zA-Z_][a-zA-Z0-9_.]{0,63}$`)
)

// modelParse reads a grant by the chapter's words.
func modelParse(s string) (api.Grant, api.Errno) {
	p := textForm.FindStringSubmatch(s)
	if p == nil {
		return api.Grant{}, api.ErrGrant
	}
	n := func(s string) int64 {
		v, _ := strconv.ParseInt(s, 10, 64)
		return v
	}
	g := api.Grant{Id: n(p[1]), From: p[2], To: p[3], Kind: slices.Index([]string{"any", "metrics", "logs", "traces"}, p[4]), Until: n(p[5]), Depth: int(n(p[6])), Parent: n(p[7])}
	for _, m := range itemForm.FindAllStringSubmatch(p[8], -1) {
		value, _ := attr.Unquote(m[3])
		g.Scope = append(g.Scope, api.Matcher{Op: 1 + slices.Index([]string{"=", "!=", "=~", "!~"}, m[2]), Key: m[1], Value: value})
	}
	if e := modelRight(g); e != api.OK {
		return api.Grant{}, e
	}
	return g, api.OK
}

// modelRight is Right of a grant that stands in a text.
func modelRight(g api.Grant) api.Errno {
	if g.Id == 0 || g.Id > 9007199254740992 || g.Parent > 9007199254740992 || g.Parent == g.Id {
		return api.ErrGrant
	}
	if !nameForm.MatchString(g.From) || !nameForm.MatchString(g.To) {
		return api.ErrIdent
	}
	if g.From == g.To {
		return api.ErrGrant
	}
	if len(g.Scope) > 8 {
		return api.ErrFull
	}
	for _, m := range g.Scope {
		if !keyForm.MatchString(m.Key) {
			return api.ErrKey
		}
		if len(m.Value) > 256 || !utf8.ValidString(m.Value) {
			return api.ErrValue
		}
	}
	if g.Until > 1125899906842624 || g.Depth > 3 {
		return api.ErrArg
	}
	return api.OK
}

// anyGrant is a grant of few names, keys and values; most can be.
func anyGrant(r *rand.Rand) api.Grant {
	pick := func(l ...string) string { return l[r.Intn(len(l))] }
	g := api.Grant{Id: 1 + r.Int63n(40), From: pick("a", "b", "c-1", "d"), To: pick("a", "b", "c-1", "d"), Kind: r.Intn(4), Until: r.Int63n(100), Depth: r.Intn(4)}
	if r.Intn(2) == 0 {
		g.Parent = 1 + r.Int63n(40)
	}
	for range r.Intn(4) {
		g.Scope = append(g.Scope, api.Matcher{Op: 1 + r.Intn(4), Key: pick("a", "b", "c.d"), Value: pick("", "1", "2", "x y", "\"", "\\\n", "} under 5", "é")})
	}
	return g
}

// mutated is a text with some pieces put in, taken out, or put in the place of others.
func mutated(r *rand.Rand, s string) string {
	pieces := []string{" ", ",", ", ", "\n", "\"", "\\", "{", "}", "=", "!", "~", "a", "1", "0", "999999999999", "*", "A", "\xff", "\t", " under 5", ` where {a="1"}`, "any", "logs", " to ", "-", `, a="1"`}
	for range r.Intn(3) {
		from := r.Intn(len(s) + 1)
		to := min(len(s), from+r.Intn(3)*r.Intn(3))
		piece := ""
		if r.Intn(4) > 0 {
			piece = pieces[r.Intn(len(pieces))]
		}
		s = s[:from] + piece + s[to:]
	}
	return s
}

// P12.1, P12.5, P9: what is written is read as it was; texts of all kinds, against the chapter's words.
func TestParseByModel(t *testing.T) {
	r := rand.New(rand.NewSource(121))
	seen := map[api.Errno]int{}
	for range 60000 {
		g := anyGrant(r)
		s, e := Line(g)
		if e != Right(g) {
			t.Fatalf("Line(%v) = %q, %d", g, s, e)
		}
		if e != api.OK {
			continue
		}
		if got, e := Parse(s); e != api.OK || !Same(got, g) {
			t.Fatalf("Parse(%q) = %v, %d", s, got, e)
		}
		s = mutated(r, s)
		want, we := modelParse(s)
		got, e := Parse(s)
		if e != we || !Same(got, want) {
			t.Fatalf("Parse(%q) = %v, %d, want %v, %d", s, got, e, want, we)
		}
		if again, _ := Line(got); e == api.OK && again != s {
			t.Fatalf("%q is written as %q", s, again)
		}
		seen[e]++
	}
	for _, e := range []api.Errno{api.OK, api.ErrGrant, api.ErrIdent, api.ErrValue, api.ErrArg} {
		if seen[e] < 20 {
			t.Errorf("the error %d came %d times only", e, seen[e])
		}
	}
}

// P1: bytes of any kind.
func TestParseAnyBytes(t *testing.T) {
	r := rand.New(rand.NewSource(1))
	for range 20000 {
		b := make([]byte, r.Intn(30))
		r.Read(b)
		for _, s := range []string{string(b), "grant " + string(b), "grant 1 from a to b any until 5 depth 0" + string(b), "grant 1 from a to b any until 5 depth 0 where {" + string(b), `grant 1 from a to b any until 5 depth 0 where {a="` + string(b) + `"}`} {
			want, we := modelParse(s)
			if got, e := Parse(s); e != we || !Same(got, want) {
				t.Fatalf("Parse(%q) = %v, %d, want %v, %d", s, got, e, want, we)
			}
		}
	}
}
