package grant

import (
	"cmp"
	"maps"
	"math"
	"math/rand"
	"slices"
	"strconv"
	"strings"
	"testing"

	"belfry/api"
	"belfry/attr"
)

// of reads grants, and puts them into a set.
func of(t *testing.T, lines ...string) *Set {
	t.Helper()
	s := New()
	for _, x := range lines {
		if e := s.Add(parsed(t, x)); e != api.OK {
			t.Fatal("Add", x, e)
		}
	}
	return s
}

func parsed(t *testing.T, line string) api.Grant {
	t.Helper()
	g, e := Parse(line)
	if e != api.OK {
		t.Fatal("Parse", line, e)
	}
	return g
}

// numbers are those of the grants of a set, in order.
func numbers(s *Set) []int64 {
	var out []int64
	for g := range s.All() {
		out = append(out, g.Id)
	}
	return out
}

// viewText tells views as a text: owners and scopes.
func viewText(v []api.View) string {
	var out []string
	for _, x := range v {
		out = append(out, x.Owner+attr.MatchText(x.Scope)+strings.Join(x.Hidden, ","))
	}
	return strings.Join(out, " ")
}

var exampleLines = []string{
	`grant 1 from acme to globex logs until 100 depth 1 where {env="prod"}`,
	"grant 2 from globex to initech logs until 90 depth 0 under 1",
}

// Example 1 of the chapter.
func TestExample(t *testing.T) {
	s := of(t, exampleLines...)
	if v := s.Reach("initech", api.KLine, 50); viewText(v) != `acme{env="prod"}` {
		t.Errorf("Reach at 50 = %v", v)
	}
	if v := s.Reach("initech", api.KLine, 95); len(v) != 0 {
		t.Errorf("Reach at 95 = %v", v)
	}
	if n, e := s.Revoke(1); n != 2 || e != api.OK || s.Len() != 0 {
		t.Errorf("Revoke = %d, %d", n, e)
	}
}

// P12.2: a nil set.
func TestNilSet(t *testing.T) {
	var s *Set
	if e := s.Add(api.Grant{}); e != api.ErrNil {
		t.Errorf("Add = %d", e)
	}
	if n, e := s.Revoke(1); n != 0 || e != api.ErrNil {
		t.Errorf("Revoke = %d, %d", n, e)
	}
	if l, e := s.Chain(1); l != nil || e != api.ErrNil {
		t.Errorf("Chain = %v, %d", l, e)
	}
	if g, e := s.Get(1); !Same(g, api.Grant{}) || e != api.ErrNil {
		t.Errorf("Get = %v, %d", g, e)
	}
	if s.Expire(math.MaxInt64) != 0 || s.Len() != 0 || s.Copy() != nil || len(numbers(s)) != 0 || len(s.Reach("a", 1, 0)) != 0 || len(s.Owners("a", 0)) != 0 {
		t.Error("a nil set tells something")
	}
	if s.Same(nil) || s.Same(New()) || New().Same(nil) || !New().Same(New()) {
		t.Error("a nil set is the same as another one")
	}
}

// P12.2: a set without grants; one that New did not make is as one that it made.
func TestEmptySet(t *testing.T) {
	for _, s := range []*Set{New(), {}, New().Copy()} {
		if s.Len() != 0 || s.Expire(math.MaxInt64) != 0 || len(numbers(s)) != 0 || len(s.Reach("a", 1, 0)) != 0 || len(s.Owners("a", 0)) != 0 || !s.Same(New()) || s.Copy().Len() != 0 {
			t.Error("an empty set has grants")
		}
		for _, id := range []int64{0, 1, -1, math.MaxInt64, math.MinInt64} {
			_, e := s.Get(id)
			_, ce := s.Chain(id)
			n, re := s.Revoke(id)
			if e != api.ErrNone || ce != api.ErrNone || re != api.ErrNone || n != 0 {
				t.Errorf("of the number %d: %d, %d, %d", id, e, ce, re)
			}
		}
		if e := s.Add(plain()); e != api.OK || s.Len() != 1 {
			t.Errorf("Add = %d", e)
		}
	}
	if New() == New() {
		t.Error("New tells one set twice")
	}
}

// full is a set of as many grants as there can be: 1 to 64 from acme to globex, the first to be handed on.
func full(t *testing.T) *Set {
	t.Helper()
	s := New()
	for i := range int64(api.MaxGrants) {
		if e := s.Add(api.Grant{Id: i + 1, From: "acme", To: "globex", Kind: api.KLine, Until: 100, Depth: 1}); e != api.OK {
			t.Fatalf("Add of %d = %d", i+1, e)
		}
	}
	return s
}

// P12.2: Add's errors in their order; a refused call changes nothing.
func TestAddErrors(t *testing.T) {
	s := full(t)
	as := s.Copy()
	for i, c := range []struct {
		g api.Grant
		e api.Errno
	}{
		{api.Grant{Id: 1, From: "acme", To: "acme"}, api.ErrGrant},
		{api.Grant{Id: 1, From: "A", To: "b"}, api.ErrIdent},
		{api.Grant{Id: 1, From: "a", To: "b", Kind: 4}, api.ErrArg},
		{api.Grant{Id: 1, From: "a", To: "b", Scope: match(api.Matcher{})}, api.ErrOp},
		{api.Grant{Id: 1, From: "a", To: "b", Depth: 4}, api.ErrArg},
		{api.Grant{Id: 1, From: "a", To: "b"}, api.ErrTwice},
		{api.Grant{Id: 64, Parent: 99, From: "a", To: "b"}, api.ErrTwice},
		{api.Grant{Id: 65, From: "a", To: "b"}, api.ErrFull},
		{api.Grant{Id: 65, Parent: 99, From: "a", To: "b"}, api.ErrFull},
		{api.Grant{Id: 65, Parent: 1, From: "a", To: "b"}, api.ErrFull},
	} {
		if e := s.Add(c.g); e != c.e {
			t.Errorf("%d: Add(%v) = %d, want %d", i, c.g, e, c.e)
		}
	}
	if !s.Same(as) || s.Len() != 64 {
		t.Error("a refused call changed the set")
	}
	if n, e := s.Revoke(64); n != 1 || e != api.OK {
		t.Errorf("Revoke = %d, %d", n, e)
	}
	if e := s.Add(api.Grant{Id: 65, Parent: 64, From: "a", To: "b"}); e != api.ErrNone {
		t.Errorf("Add under one that is gone = %d", e)
	}
	if e := s.Add(api.Grant{Id: 65, Parent: 1, From: "globex", To: "b", Kind: api.KLine}); e != api.OK || s.Len() != 64 {
		t.Errorf("Add in the place of one that is gone = %d", e)
	}
}

// P12.2: what a grant may hand on, each at its edge.
func TestAddDenied(t *testing.T) {
	const parent = "grant 1 from acme to globex logs until 100 depth 2"
	for line, want := range map[string]api.Errno{
		"grant 2 from globex to b logs until 100 depth 1 under 1":                                          api.OK,
		"grant 2 from globex to b logs until 0 depth 0 under 1":                                            api.OK,
		"grant 2 from globex to b logs until 100 depth 1 under 3":                                          api.ErrNone,
		"grant 2 from globex to acme logs until 100 depth 1 under 3":                                       api.ErrNone,
		"grant 2 from acme to b logs until 100 depth 1 under 1":                                            api.ErrDenied,
		"grant 2 from b to c logs until 100 depth 1 under 1":                                               api.ErrDenied,
		"grant 2 from globex to b any until 100 depth 1 under 1":                                           api.ErrDenied,
		"grant 2 from globex to b metrics until 100 depth 1 under 1":                                       api.ErrDenied,
		"grant 2 from globex to b traces until 100 depth 1 under 1":                                        api.ErrDenied,
		"grant 2 from globex to b logs until 101 depth 1 under 1":                                          api.ErrDenied,
		"grant 2 from globex to b logs until 100 depth 2 under 1":                                          api.ErrDenied,
		"grant 2 from globex to b logs until 100 depth 3 under 1":                                          api.ErrDenied,
		"grant 2 from globex to acme logs until 100 depth 1 under 1":                                       api.ErrDenied,
		"grant 2 from globex to acme logs until 100 depth 1":                                               api.OK,
		`grant 2 from globex to b logs until 100 depth 1 under 1 where {a="1"}`:                            api.OK,
		"grant 9007199254740992 from globex to b logs until 100 depth 1 under 1":                           api.OK,
		"grant 2 from globex to b logs until 100 depth 1 under 9007199254740992":                           api.ErrNone,
		"grant 2 from a to b any until 1125899906842624 depth 3":                                           api.OK,
		"grant 1 from a to b any until 5 depth 3":                                                          api.ErrTwice,
		"grant 2 from b to c metrics until 101 depth 2 under 1 where {a=\"1\", b=\"2\", c=\"3\", d=\"4\"}": api.ErrDenied,
	} {
		s := of(t, parent)
		if e := s.Add(parsed(t, line)); e != want || (s.Len() == 2) != (want == api.OK) {
			t.Errorf("Add(%s) = %d, want %d; there are %d", line, e, want, s.Len())
		}
	}
}

// P12.2: under a grant of any kind one of each kind may be; none of any kind under one of a kind.
func TestAddKinds(t *testing.T) {
	for above := range 4 {
		for below := range 4 {
			s := New()
			s.Add(api.Grant{Id: 1, From: "a", To: "b", Kind: above, Until: 9, Depth: 1})
			want := api.ErrDenied
			if above == 0 || above == below {
				want = api.OK
			}
			if e := s.Add(api.Grant{Id: 2, Parent: 1, From: "b", To: "c", Kind: below, Until: 9}); e != want {
				t.Errorf("of the kind %d under %d: %d", below, above, e)
			}
		}
	}
}

// P12.2, P12.7: a chain has at most four grants; its owner is that of the first, and sees nothing of its own by them, while another one of the chain may come again.
func TestChain(t *testing.T) {
	lines := []string{
		`grant 4 from a to b any until 50 depth 3 where {x="1"}`,
		"grant 3 from b to c any until 40 depth 2 under 4",
		`grant 2 from c to b logs until 40 depth 1 under 3 where {y="1"}`,
		"grant 1 from b to d logs until 9 depth 0 under 2",
	}
	s := of(t, lines...)
	var want []api.Grant
	for i, x := range lines {
		want = append(want, parsed(t, x))
		got, e := s.Chain(int64(4 - i))
		if e != api.OK || !slices.EqualFunc(got, want, Same) {
			t.Errorf("Chain(%d) = %v, %d", 4-i, got, e)
		}
		clear(got[0].Scope)
		clear(got)
	}
	if got, e := s.Chain(1); e != api.OK || !slices.EqualFunc(got, want, Same) || len(got) != api.MaxHops {
		t.Errorf("a chain shares its memory: %v", got)
	}
	if l, e := s.Chain(5); l != nil || e != api.ErrNone {
		t.Errorf("Chain(5) = %v, %d", l, e)
	}
	if e := s.Add(api.Grant{Id: 5, Parent: 1, From: "d", To: "e", Kind: api.KLine}); e != api.ErrDenied {
		t.Errorf("Add of a fifth one = %d", e)
	}
	for _, parent := range []int64{2, 3, 4} {
		g, _ := s.Get(parent)
		if e := s.Add(api.Grant{Id: 5, Parent: parent, From: g.To, To: "a", Kind: api.KLine}); e != api.ErrDenied {
			t.Errorf("Add to the owner, under %d = %d", parent, e)
		}
	}
}

// P12.2, P12.7: Revoke takes away what hangs on a grant, near and far, and nothing else.
func TestRevoke(t *testing.T) {
	lines := []string{
		"grant 10 from a to b any until 50 depth 3",
		"grant 7 from b to c any until 50 depth 2 under 10",
		"grant 20 from a to b any until 50 depth 3",
		"grant 8 from b to d any until 50 depth 2 under 10",
		"grant 9 from c to e any until 50 depth 1 under 7",
		"grant 1 from c to f any until 50 depth 1 under 7",
		"grant 2 from f to e any until 50 depth 0 under 1",
		"grant 21 from b to c any until 50 depth 0 under 20",
	}
	for id, want := range map[int64][]int64{
		10: {20, 21}, 7: {10, 20, 8, 21}, 20: {10, 7, 8, 9, 1, 2}, 8: {10, 7, 20, 9, 1, 2, 21}, 9: {10, 7, 20, 8, 1, 2, 21}, 1: {10, 7, 20, 8, 9, 21}, 2: {10, 7, 20, 8, 9, 1, 21}, 21: {10, 7, 20, 8, 9, 1, 2},
	} {
		s := of(t, lines...)
		n, e := s.Revoke(id)
		if got := numbers(s); n != len(lines)-len(want) || e != api.OK || !slices.Equal(got, want) || s.Len() != len(want) {
			t.Errorf("Revoke(%d) = %d, %d, and %v are left", id, n, e, got)
		}
		if n, e := s.Revoke(id); n != 0 || e != api.ErrNone || s.Len() != len(want) {
			t.Errorf("Revoke(%d) again = %d, %d", id, n, e)
		}
		for g := range s.All() {
			if c, e := s.Chain(g.Id); e != api.OK || c[0].Parent != 0 {
				t.Errorf("behind Revoke(%d) %d hangs on what is gone", id, g.Id)
			}
		}
	}
}

// P12.2: a grant of the number of one that is gone is another one: nothing hangs on it.
func TestAddAgain(t *testing.T) {
	s := of(t, exampleLines...)
	s.Revoke(1)
	if e := s.Add(parsed(t, exampleLines[1])); e != api.ErrNone {
		t.Errorf("Add under one that is gone = %d", e)
	}
	if e := s.Add(parsed(t, "grant 1 from x to y any until 5 depth 1")); e != api.OK || len(s.Reach("initech", api.KLine, 0)) != 0 {
		t.Errorf("Add of the number again = %d", e)
	}
	s.Add(parsed(t, "grant 3 from x to y any until 5 depth 1"))
	s.Revoke(1)
	s.Add(parsed(t, "grant 1 from x to y any until 5 depth 1"))
	if !slices.Equal(numbers(s), []int64{3, 1}) {
		t.Errorf("the order is %v", numbers(s))
	}
}

// P12.2: Expire at the edges.
func TestExpire(t *testing.T) {
	lines := []string{
		"grant 1 from a to b any until 50 depth 3",
		"grant 2 from b to c any until 40 depth 2 under 1",
		"grant 3 from c to d any until 40 depth 1 under 2",
		"grant 4 from c to e any until 0 depth 1 under 2",
		"grant 5 from a to b any until 1125899906842624 depth 0",
	}
	for _, c := range []struct {
		now  int64
		left []int64
	}{
		{math.MinInt64, []int64{1, 2, 3, 4, 5}}, {-1, []int64{1, 2, 3, 4, 5}}, {0, []int64{1, 2, 3, 5}}, {39, []int64{1, 2, 3, 5}}, {40, []int64{1, 5}}, {49, []int64{1, 5}}, {50, []int64{5}},
		{api.MaxTime - 1, []int64{5}}, {api.MaxTime, nil}, {math.MaxInt64, nil},
	} {
		s := of(t, lines...)
		if n := s.Expire(c.now); n != len(lines)-len(c.left) || !slices.Equal(numbers(s), c.left) {
			t.Errorf("Expire(%d) = %d, and %v are left", c.now, n, numbers(s))
		}
		if n := s.Expire(c.now); n != 0 {
			t.Errorf("Expire(%d) again = %d", c.now, n)
		}
	}
}

// P12.3: whom, which kind, until when; the order; the scope in all.
func TestReach(t *testing.T) {
	s := of(t,
		"grant 12 from b to z any until 50 depth 1",
		`grant 9 from b to z logs until 60 depth 0 where {k="9", j="1", k="9"}`,
		`grant 11 from ab to z metrics until 70 depth 3 where {y="1", x="2"}`,
		"grant 10 from ab to z any until 80 depth 0",
		`grant 3 from z to y metrics until 70 depth 0 under 11 where {x!="3", y="1"}`,
		"grant 4 from z to y traces until 20 depth 0 under 12",
		"grant 2 from a-b to y any until 5 depth 0",
	)
	as := s.Copy()
	for _, c := range []struct {
		viewer string
		kind   int
		now    int64
		want   string
	}{
		{"z", api.KPoint, 0, `ab{} ab{x="2", y="1"} b{}`},
		{"z", api.KLine, 0, `ab{} b{j="1", k="9"} b{}`},
		{"z", api.KSpan, math.MinInt64, `ab{} b{}`},
		{"z", api.KLine, 49, `ab{} b{j="1", k="9"} b{}`},
		{"z", api.KLine, 50, `ab{} b{j="1", k="9"}`},
		{"z", api.KLine, 60, `ab{}`},
		{"z", api.KPoint, 69, `ab{} ab{x="2", y="1"}`},
		{"z", api.KPoint, 70, `ab{}`},
		{"z", api.KPoint, 80, ``},
		{"z", api.KPoint, math.MaxInt64, ``},
		{"y", api.KPoint, 0, `a-b{} ab{x="2", x!="3", y="1"}`},
		{"y", api.KPoint, 5, `ab{x="2", x!="3", y="1"}`},
		{"y", api.KLine, 0, `a-b{}`},
		{"y", api.KSpan, 19, `b{}`},
		{"y", api.KSpan, 20, ``},
		{"z", 0, 0, ``}, {"z", 4, 0, ``}, {"z", -1, 0, ``}, {"z", math.MaxInt, 0, ``}, {"z", math.MinInt, 0, ``},
		{"ab", api.KPoint, 0, ``}, {"b", api.KPoint, 0, ``}, {"", api.KPoint, 0, ``}, {"*", api.KPoint, 0, ``}, {"Z", api.KPoint, 0, ``},
	} {
		v := s.Reach(c.viewer, c.kind, c.now)
		if viewText(v) != c.want {
			t.Errorf("Reach(%s, %d, %d) = %s, want %s", c.viewer, c.kind, c.now, viewText(v), c.want)
		}
		for i := range v {
			clear(v[i].Scope)
		}
		if !s.Same(as) {
			t.Fatal("a view shares its memory with the grants")
		}
	}
}

// P12.3: the owners, at times.
func TestOwners(t *testing.T) {
	s := of(t,
		"grant 1 from b to z metrics until 50 depth 1",
		"grant 2 from b to z traces until 60 depth 1",
		"grant 3 from ab to z any until 40 depth 1",
		"grant 4 from c to z logs until 30 depth 1",
		"grant 5 from z to y traces until 20 depth 0 under 2",
	)
	for _, c := range []struct {
		viewer string
		now    int64
		want   []string
	}{
		{"z", math.MinInt64, []string{"ab", "b", "c"}}, {"z", 0, []string{"ab", "b", "c"}}, {"z", 30, []string{"ab", "b"}}, {"z", 40, []string{"b"}}, {"z", 59, []string{"b"}}, {"z", 60, nil}, {"z", math.MaxInt64, nil},
		{"y", 19, []string{"b"}}, {"y", 20, nil}, {"b", 0, nil}, {"", 0, nil},
	} {
		for range 2 {
			l := s.Owners(c.viewer, c.now)
			if !slices.Equal(l, c.want) {
				t.Errorf("Owners(%s, %d) = %v", c.viewer, c.now, l)
			}
			clear(l)
		}
	}
}

// P12.3: a grant whose scope in all has too many matchers lets nobody see anything, and those below it neither; what stands twice counts once.
func TestTooMany(t *testing.T) {
	scope := func(from, to int) []api.Matcher {
		var out []api.Matcher
		for i := from; i < to; i++ {
			out = append(out, eq("k"+strconv.Itoa(i), ""))
		}
		return out
	}
	s := New()
	for _, g := range []api.Grant{
		{Id: 1, From: "a", To: "b", Until: 9, Depth: 3, Scope: scope(0, 6)},
		{Id: 2, Parent: 1, From: "b", To: "c", Until: 9, Depth: 2, Scope: scope(3, 8)},
		{Id: 3, Parent: 1, From: "b", To: "d", Until: 9, Depth: 2, Scope: scope(3, 9)},
		{Id: 4, Parent: 3, From: "d", To: "e", Until: 9, Depth: 1},
		{Id: 5, Parent: 2, From: "c", To: "e", Kind: api.KLine, Until: 9, Depth: 1, Scope: scope(0, 8)},
		{Id: 6, Parent: 5, From: "e", To: "f", Kind: api.KLine, Until: 9, Depth: 0, Scope: scope(8, 9)},
	} {
		if e := s.Add(g); e != api.OK {
			t.Fatalf("Add(%v) = %d", g, e)
		}
	}
	for viewer, want := range map[string]int{"b": 6, "c": 8, "d": -1, "e": 8, "f": -1} {
		v := s.Reach(viewer, api.KLine, 0)
		if want < 0 && (len(v) != 0 || len(s.Owners(viewer, 0)) != 0) {
			t.Errorf("%s sees %v", viewer, v)
		}
		if want >= 0 && (len(v) != 1 || len(v[0].Scope) != want || !slices.Equal(s.Owners(viewer, 0), []string{"a"})) {
			t.Errorf("%s sees %v", viewer, v)
		}
	}
	if v := s.Reach("e", api.KPoint, 0); len(v) != 0 {
		t.Errorf("e sees %v", v)
	}
}

// P12.4: what is handed in is not kept, and what is answered is not shared.
func TestMemory(t *testing.T) {
	g := parsed(t, exampleLines[0])
	s := New()
	s.Add(g)
	g.Scope[0] = api.Matcher{}
	want := parsed(t, exampleLines[0])
	check := func(how string) {
		t.Helper()
		if got, e := s.Get(1); e != api.OK || !Same(got, want) {
			t.Errorf("%s: %v, %d", how, got, e)
		}
	}
	check("Add keeps what it is handed")
	got, _ := s.Get(1)
	got.Scope[0] = api.Matcher{}
	check("Get")
	all := s.All()
	for x := range all {
		x.Scope[0] = api.Matcher{}
	}
	for x := range all {
		if !Same(x, want) {
			t.Errorf("All behind a write = %v", x)
		}
	}
	check("All")
	copied := s.Copy()
	x, _ := copied.Get(1)
	x.Scope[0] = api.Matcher{}
	check("Copy")
}

// P12.4: All in the order in which they were added, as far as its reader goes, of what there was when it was called.
func TestAll(t *testing.T) {
	s := of(t, "grant 9 from a to b any until 5 depth 0", "grant 2 from a to b any until 5 depth 0", "grant 7 from a to b any until 5 depth 0")
	all := s.All()
	for g := range all {
		if g.Id != 9 {
			t.Errorf("the first one is %d", g.Id)
		}
		break
	}
	s.Revoke(2)
	s.Add(parsed(t, "grant 1 from a to b any until 5 depth 0"))
	if !slices.Equal(numbers(s), []int64{9, 7, 1}) {
		t.Errorf("All = %v", numbers(s))
	}
	var was []int64
	for g := range all {
		was = append(was, g.Id)
	}
	if !slices.Equal(was, []int64{9, 2, 7}) {
		t.Errorf("All of what there was = %v", was)
	}
}

// P12.4: Copy and Same: grants and their order; sets go on apart.
func TestCopyAndSame(t *testing.T) {
	one, two, three := "grant 1 from a to b any until 5 depth 0", "grant 2 from a to b any until 5 depth 0", "grant 3 from a to b any until 5 depth 0"
	s := of(t, one, two)
	c := s.Copy()
	if !s.Same(c) || !c.Same(s) || !s.Same(s) || !s.Same(of(t, one, two)) {
		t.Error("a copy is not the same")
	}
	for i, o := range []*Set{New(), of(t, one), of(t, two, one), of(t, one, two, three), of(t, one, three), of(t, one, "grant 2 from a to b any until 6 depth 0")} {
		if s.Same(o) || o.Same(s) {
			t.Errorf("%d: the same as another one", i)
		}
	}
	s.Revoke(1)
	if c.Len() != 2 || s.Same(c) {
		t.Error("Revoke is seen in a copy")
	}
	c.Add(parsed(t, three))
	if s.Len() != 1 || c.Len() != 3 || !s.Same(of(t, two)) {
		t.Error("Add is seen in what was copied")
	}
	c.Expire(5)
	if s.Len() != 1 || c.Len() != 0 {
		t.Error("Expire is seen in what was copied")
	}
	x := of(t, one, two, three)
	x.Revoke(1)
	x.Revoke(2)
	x.Add(parsed(t, two))
	y := of(t, three, two)
	if !x.Same(y) || !y.Same(x) || !x.Copy().Same(y) {
		t.Error("sets of the same grants in the same order are not the same, by how they came about")
	}
	x, y = x.Copy(), x
	x.Add(parsed(t, one))
	y.Add(parsed(t, one))
	if !x.Same(y) || !slices.Equal(numbers(x), []int64{3, 2, 1}) {
		t.Errorf("a copy goes on otherwise: %v", numbers(x))
	}
}

// model is a set as a list of grants, in the order in which they were added.
type model []api.Grant

func (m model) find(id int64) int {
	return slices.IndexFunc(m, func(g api.Grant) bool { return g.Id == id })
}

func (m model) chain(id int64) []api.Grant {
	g := m[m.find(id)]
	if g.Parent == 0 {
		return []api.Grant{g}
	}
	return append(m.chain(g.Parent), g)
}

func (m model) add(g api.Grant) (model, api.Errno) {
	if e := Right(g); e != api.OK {
		return m, e
	}
	if m.find(g.Id) >= 0 {
		return m, api.ErrTwice
	}
	if len(m) == 64 {
		return m, api.ErrFull
	}
	if g.Parent != 0 {
		at := m.find(g.Parent)
		if at < 0 {
			return m, api.ErrNone
		}
		p := m[at]
		if g.From != p.To || p.Kind != 0 && p.Kind != g.Kind || g.Until > p.Until || g.Depth >= p.Depth || g.To == m.chain(p.Id)[0].From {
			return m, api.ErrDenied
		}
	}
	return append(slices.Clone(m), g), api.OK
}

// without is what is left if those go of which something holds, round by round, until all that is left has its parent.
func (m model) without(holds func(api.Grant) bool) model {
	left := slices.DeleteFunc(slices.Clone(m), holds)
	for {
		were := len(left)
		before := slices.Clone(left)
		left = slices.DeleteFunc(left, func(g api.Grant) bool { return g.Parent != 0 && before.find(g.Parent) < 0 })
		if len(left) == were {
			return left
		}
	}
}

func (m model) reach(viewer string, kind int, now int64) []api.View {
	var of []api.Grant
	for _, g := range m {
		if g.To == viewer && (g.Kind == 0 || g.Kind == kind) && kind >= 1 && kind <= 3 {
			of = append(of, g)
		}
	}
	slices.SortStableFunc(of, func(a, b api.Grant) int {
		return cmp.Or(strings.Compare(m.chain(a.Id)[0].From, m.chain(b.Id)[0].From), cmp.Compare(a.Id, b.Id))
	})
	var out []api.View
	for _, g := range of {
		all := map[api.Matcher]int{}
		over := false
		for _, x := range m.chain(g.Id) {
			over = over || x.Until <= now
			for _, y := range x.Scope {
				all[y]++
			}
		}
		if over || len(all) > 8 {
			continue
		}
		scope := slices.SortedFunc(maps.Keys(all), func(a, b api.Matcher) int {
			return cmp.Or(strings.Compare(a.Key, b.Key), cmp.Compare(a.Op, b.Op), strings.Compare(a.Value, b.Value))
		})
		out = append(out, api.View{Owner: m.chain(g.Id)[0].From, Scope: scope})
	}
	return out
}

func (m model) owners(viewer string, now int64) []string {
	all := map[string]int{}
	for kind := 1; kind <= 3; kind++ {
		for _, v := range m.reach(viewer, kind, now) {
			all[v.Owner]++
		}
	}
	return slices.Sorted(maps.Keys(all))
}

// under makes a grant one that a grant of the model may well hand on.
func (m model) under(r *rand.Rand, g api.Grant) api.Grant {
	p := m[r.Intn(len(m))]
	g.Parent, g.From = p.Id, p.To
	if r.Intn(4) > 0 {
		g.Kind = p.Kind
	}
	g.Until = max(0, p.Until-r.Int63n(30)+2)
	g.Depth = max(0, p.Depth-r.Intn(3))
	return g
}

// P12.2, P12.3, P12.4, P12.6, P12.7, P12.8: calls of all kinds, one behind the other, against a model.
func TestByModel(t *testing.T) {
	r := rand.New(rand.NewSource(122))
	seen := map[api.Errno]int{}
	for round := range 150 {
		s, m := New(), model(nil)
		most := 40 + r.Int63n(200)
		calls, steps := 12, 150
		if round%5 == 0 { // seldom does one go, so that the set is filled
			calls, steps, most = 200, 400, 500
		}
		for range steps {
			switch r.Intn(calls) {
			case 0:
				id := 1 + r.Int63n(most)
				left := m.without(func(g api.Grant) bool { return g.Id == id })
				want := api.OK
				if len(left) == len(m) {
					want = api.ErrNone
				}
				if n, e := s.Revoke(id); n != len(m)-len(left) || e != want {
					t.Fatalf("Revoke(%d) of %v = %d, %d", id, m, n, e)
				}
				m = left
			case 1:
				now := r.Int63n(30) * r.Int63n(2)
				left := m.without(func(g api.Grant) bool { return g.Until <= now })
				if n := s.Expire(now); n != len(m)-len(left) {
					t.Fatalf("Expire(%d) of %v = %d", now, m, n)
				}
				m = left
			case 2:
				s = s.Copy()
			default:
				g := anyGrant(r)
				g.Id = 1 + r.Int63n(most)
				if len(m) > 0 && r.Intn(2) == 0 {
					g = m.under(r, g)
				}
				after, want := m.add(g)
				if e := s.Add(g); e != want {
					t.Fatalf("Add(%v) to %v = %d, want %d", g, m, e, want)
				}
				m = after
				seen[want]++
			}
			checkModel(t, r, s, m, most)
		}
	}
	for _, e := range []api.Errno{api.OK, api.ErrGrant, api.ErrTwice, api.ErrFull, api.ErrNone, api.ErrDenied} {
		if seen[e] < 20 {
			t.Errorf("Add answered %d %d times only", e, seen[e])
		}
	}
}

// checkModel holds a set against a model.
func checkModel(t *testing.T, r *rand.Rand, s *Set, m model, most int64) {
	t.Helper()
	if !slices.EqualFunc(slices.Collect(s.All()), m, Same) || s.Len() != len(m) {
		t.Fatalf("All = %v, want %v", slices.Collect(s.All()), m)
	}
	viewer, kind, now := []string{"a", "b", "c-1", "d"}[r.Intn(4)], r.Intn(5), r.Int63n(110)-5
	want := m.reach(viewer, kind, now)
	got := s.Reach(viewer, kind, now)
	if viewText(got) != viewText(want) {
		t.Fatalf("Reach(%s, %d, %d) of %v = %v, want %v", viewer, kind, now, m, got, want)
	}
	for _, v := range got {
		if v.Owner == viewer {
			t.Fatalf("%s sees its own by %v", viewer, v)
		}
	}
	if l := s.Owners(viewer, now); !slices.Equal(l, m.owners(viewer, now)) {
		t.Fatalf("Owners(%s, %d) of %v = %v", viewer, now, m, l)
	}
	id := 1 + r.Int63n(most)
	chain, e := s.Chain(id)
	g, ge := s.Get(id)
	if m.find(id) < 0 {
		if e != api.ErrNone || ge != api.ErrNone || chain != nil || !Same(g, api.Grant{}) {
			t.Fatalf("Chain(%d) = %v, %d; Get = %v, %d", id, chain, e, g, ge)
		}
		return
	}
	if e != api.OK || ge != api.OK || !slices.EqualFunc(chain, m.chain(id), Same) || !Same(g, m[m.find(id)]) || len(chain) > api.MaxHops {
		t.Fatalf("Chain(%d) = %v, %d; Get = %v, %d", id, chain, e, g, ge)
	}
	checkWithin(t, s, chain, now)
}

// checkWithin: what a grant lets its To see its parent lets its From see (P12.6, P10), and only while no time of its chain is over (P12.8).
func checkWithin(t *testing.T, s *Set, chain []api.Grant, now int64) {
	t.Helper()
	last := chain[len(chain)-1]
	view, ok := sees(chain)
	if !ok || last.Until <= now || last.Parent == 0 {
		return
	}
	kind := max(last.Kind, 1)
	holds := func(v api.View) bool {
		return v.Owner == view.Owner && !slices.ContainsFunc(v.Scope, func(m api.Matcher) bool { return !slices.Contains(view.Scope, m) })
	}
	if !slices.ContainsFunc(s.Reach(last.From, kind, now), holds) {
		t.Fatalf("%s hands on at %d what it does not see: %v", last.From, now, chain)
	}
}
