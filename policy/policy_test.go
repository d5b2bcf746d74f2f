package policy

import (
	"math"
	"slices"
	"strconv"
	"strings"
	"testing"

	"belfry/api"
)

func eq(key, value string) api.Matcher  { return api.Matcher{Op: api.MEq, Key: key, Value: value} }
func ne(key, value string) api.Matcher  { return api.Matcher{Op: api.MNe, Key: key, Value: value} }
func has(key, value string) api.Matcher { return api.Matcher{Op: api.MHas, Key: key, Value: value} }
func not(key, value string) api.Matcher { return api.Matcher{Op: api.MNot, Key: key, Value: value} }

func match(l ...api.Matcher) []api.Matcher { return l }

// manyKeys are n keys that can be.
func manyKeys(n int) []string {
	var out []string
	for i := range n {
		out = append(out, "k"+strconv.Itoa(i))
	}
	return out
}

// copyRules are rules that share no memory with others.
func copyRules(l []api.Rule) []api.Rule {
	var out []api.Rule
	for _, r := range l {
		r.Scope, r.Hidden = slices.Clone(r.Scope), slices.Clone(r.Hidden)
		out = append(out, r)
	}
	return out
}

// P11.1: the words of kinds.
func TestKind(t *testing.T) {
	for kind, want := range map[int]string{0: "any", api.KPoint: "metrics", api.KLine: "logs", api.KSpan: "traces", -1: "", 4: "", math.MaxInt: "", math.MinInt: ""} {
		if s := Kind(kind); s != want {
			t.Errorf("Kind(%d) = %q", kind, s)
		}
	}
}

// P11.1: rules that can be, at the edges.
func TestRight(t *testing.T) {
	for _, r := range []api.Rule{
		{To: "*"}, {To: "a"}, {To: strings.Repeat("a", 32)}, {Kind: api.KPoint, To: "a"}, {Kind: api.KSpan, To: "a-0"},
		{Deny: true, To: "*"}, {Deny: true, Kind: api.KLine, To: "a", Scope: match(eq("a", ""))}, {Deny: true, To: "a", Scope: match(), Hidden: []string{}},
		{To: "*", Scope: slices.Repeat(match(eq("a", "1")), 8)}, {To: "*", Hidden: manyKeys(16)}, {To: "*", Hidden: []string{strings.Repeat("k", 64), "_", "a.b"}},
		{To: "*", Scope: match(eq("user", "ann")), Hidden: []string{"user"}},
	} {
		if e := Right(r); e != api.OK {
			t.Errorf("Right(%v) = %d", r, e)
		}
	}
}

// P11.1: what is wrong, each fault ahead of those that are named behind it.
func TestRightErrors(t *testing.T) {
	bad := func(change func(*api.Rule)) api.Rule { // all that can be wrong is wrong
		r := api.Rule{Deny: true, Kind: 4, To: "A", Scope: slices.Repeat(match(api.Matcher{}), 9), Hidden: append(manyKeys(16), "1", "1")}
		change(&r)
		return r
	}
	kind := func(r *api.Rule) { r.Kind = 3 }
	to := func(r *api.Rule) { kind(r); r.To = "*" }
	fewer := func(r *api.Rule) { to(r); r.Scope = r.Scope[:8] }
	operator := func(r *api.Rule) { fewer(r); r.Scope[0].Op = api.MEq }
	key := func(r *api.Rule) { operator(r); r.Scope[0].Key, r.Scope[0].Value = "a", "\xff" }
	scope := func(r *api.Rule) { to(r); r.Scope = match(eq("a", "1"), ne("a", "1")) }
	one := func(r *api.Rule) { scope(r); r.Scope = r.Scope[:1] }
	allow := func(r *api.Rule) { scope(r); r.Deny = false }
	hides := func(r *api.Rule) { allow(r); r.Hidden = []string{"a", "a", "1a"} }
	for i, c := range []struct {
		r api.Rule
		e api.Errno
	}{
		{bad(func(r *api.Rule) {}), api.ErrArg},
		{bad(func(r *api.Rule) { r.Kind = -1 }), api.ErrArg},
		{bad(func(r *api.Rule) { r.Kind = math.MinInt }), api.ErrArg},
		{bad(kind), api.ErrIdent},
		{bad(func(r *api.Rule) { kind(r); r.To = "" }), api.ErrIdent},
		{bad(func(r *api.Rule) { kind(r); r.To = "**" }), api.ErrIdent},
		{bad(func(r *api.Rule) { kind(r); r.To = strings.Repeat("a", 33) }), api.ErrIdent},
		{bad(to), api.ErrFull},
		{bad(fewer), api.ErrOp},
		{bad(operator), api.ErrKey},
		{bad(key), api.ErrValue},
		{bad(scope), api.ErrRule},
		{bad(one), api.ErrRule},
		{bad(func(r *api.Rule) { one(r); r.Hidden = []string{"a"} }), api.ErrRule},
		{bad(func(r *api.Rule) { scope(r); r.Hidden = nil }), api.ErrRule},
		{bad(func(r *api.Rule) { one(r); r.Hidden = nil }), api.OK},
		{bad(allow), api.ErrFull},
		{api.Rule{To: "*", Hidden: manyKeys(17)}, api.ErrFull},
		{bad(hides), api.ErrKey},
		{bad(func(r *api.Rule) { allow(r); r.Hidden = []string{"b", ""} }), api.ErrKey},
		{bad(func(r *api.Rule) { allow(r); r.Hidden = []string{strings.Repeat("k", 65)} }), api.ErrKey},
		{bad(func(r *api.Rule) { hides(r); r.Hidden[2] = "c" }), api.ErrTwice},
		{bad(func(r *api.Rule) { allow(r); r.Hidden = []string{"a", "b", "c", "a"} }), api.ErrTwice},
		{api.Rule{To: "*", Hidden: append(manyKeys(15), "k14")}, api.ErrTwice},
		{bad(func(r *api.Rule) { hides(r); r.Hidden = []string{"a", "A"} }), api.OK},
	} {
		if e := Right(c.r); e != c.e {
			t.Errorf("%d: Right(%v) = %d, want %d", i, c.r, e, c.e)
		}
	}
}

// P11.1: each field, and the order, is held against the other one's; a nil list is an empty one.
func TestSame(t *testing.T) {
	a := []api.Rule{{Deny: true, Kind: 1, To: "a", Scope: match(eq("a", "1"), ne("b", "2")), Hidden: []string{"x", "y"}}, {To: "*"}}
	if !Same(a, copyRules(a)) || !Same(nil, nil) || !Same(nil, []api.Rule{}) || !Same([]api.Rule{{}}, []api.Rule{{Scope: match(), Hidden: []string{}}}) {
		t.Error("the same rules are not the same")
	}
	for i, change := range []func([]api.Rule) []api.Rule{
		func(l []api.Rule) []api.Rule { return nil },
		func(l []api.Rule) []api.Rule { return l[:1] },
		func(l []api.Rule) []api.Rule { return append(l, api.Rule{}) },
		func(l []api.Rule) []api.Rule { l[0], l[1] = l[1], l[0]; return l },
		func(l []api.Rule) []api.Rule { l[0].Deny = false; return l },
		func(l []api.Rule) []api.Rule { l[0].Kind = 2; return l },
		func(l []api.Rule) []api.Rule { l[1].To = "a"; return l },
		func(l []api.Rule) []api.Rule { l[0].Scope = l[0].Scope[:1]; return l },
		func(l []api.Rule) []api.Rule { l[0].Scope[1].Op = api.MEq; return l },
		func(l []api.Rule) []api.Rule { l[0].Scope[1].Key = "c"; return l },
		func(l []api.Rule) []api.Rule { l[0].Scope[0].Value = ""; return l },
		func(l []api.Rule) []api.Rule { slices.Reverse(l[0].Scope); return l },
		func(l []api.Rule) []api.Rule { l[0].Hidden = l[0].Hidden[1:]; return l },
		func(l []api.Rule) []api.Rule { l[0].Hidden[0] = "z"; return l },
		func(l []api.Rule) []api.Rule { slices.Reverse(l[0].Hidden); return l },
		func(l []api.Rule) []api.Rule { l[1].Hidden = []string{"x"}; return l },
	} {
		b := change(copyRules(a))
		if Same(a, b) || Same(b, a) {
			t.Errorf("%d: %v is the same as %v", i, b, a)
		}
	}
}
