package gate

import (
	"strconv"
	"strings"
	"testing"

	"belfry/api"
	"belfry/disk"
	"belfry/quota"
	"belfry/sha"
	"belfry/slots"
)

// shared is three tenants with signals of all kinds.
func shared(t *testing.T) *bench {
	t.Helper()
	b := fresh(t, "acme", "globex", "initech")
	for i, peer := range []string{ann, bob, eve} {
		n := int64(i + 1)
		who := string(rune('a' + i))
		b.do(peer, put(1, line(5, who+"1", "env", "prod", "user", "u"+who), line(6, who+"2", "env", "test", "user", "u"+who)))
		b.do(peer, put(2, point("up", 5, n, "env", "prod", "user", "u"+who), point("up", 6, 10*n, "env", "test", "user", "u"+who)))
		b.do(peer, put(3, span("top", 5, 9, 1, 0, "env", "prod", "user", "u"+who), span("sub", 6, 8, 2, 1, "env", "test", "user", "u"+who)))
	}
	return b
}

// What each kind of request tells, of one tenant's own.
func TestOwn(t *testing.T) {
	b := shared(t)
	is(t, "lines", b.body(bob, lines(1, "{}")), "globex 6 0 \"b2\" {env=\"test\", user=\"ub\"}\nglobex 5 0 \"b1\" {env=\"prod\", user=\"ub\"}\n")
	is(t, "some lines", b.body(bob, lines(1, `{env="prod"} |= "1"`)), "globex 5 0 \"b1\" {env=\"prod\", user=\"ub\"}\n")
	is(t, "a line", b.body(bob, lines(1, `{} | limit 1`)), "globex 6 0 \"b2\" {env=\"test\", user=\"ub\"}\n")
	q := lines(1, "{}")
	q.From, q.To = 5, 5
	is(t, "lines of a time", b.body(bob, q), "globex 5 0 \"b1\" {env=\"prod\", user=\"ub\"}\n")
	q.From, q.To = 7, 9
	is(t, "lines of another time", b.body(bob, q), "")
	is(t, "metrics", b.body(bob, metrics(1, "up", 6)), "{env=\"prod\", tenant=\"globex\", user=\"ub\"} 2\n{env=\"test\", tenant=\"globex\", user=\"ub\"} 20\n")
	is(t, "metrics of another time", b.body(bob, metrics(1, "count(up)", 5)), "{} 1\n")
	is(t, "a number", b.body(bob, metrics(1, "1 + 2", 5)), "3\n")
	is(t, "spans", b.body(bob, spans(1, "spans")), "globex 6 8 \"sub\" 0200000000000000 {env=\"test\", user=\"ub\"}\nglobex 5 9 \"top\" 0100000000000000 {env=\"prod\", user=\"ub\"}\n")
	is(t, "spans with a child", b.body(bob, spans(1, `spans with child named "sub"`)), "globex 5 9 \"top\" 0100000000000000 {env=\"prod\", user=\"ub\"}\n")
	s := spans(1, "spans")
	s.From = 6
	is(t, "spans of a time", b.body(bob, s), "globex 6 8 \"sub\" 0200000000000000 {env=\"test\", user=\"ub\"}\n")
	is(t, "a trace", b.body(bob, trace(1)), "0 globex 5 9 \"top\" 0100000000000000 {env=\"prod\", user=\"ub\"}\n1 globex 6 8 \"sub\" 0200000000000000 {env=\"test\", user=\"ub\"}\n")
	none := trace(1)
	none.Body[0] = 2
	is(t, "a trace that there is not", b.body(bob, none), "")
}

// Views: its own first, then of each tenant in order the first that can be: those of its rules, in order, and then those of grants, by their numbers.
func TestViews(t *testing.T) {
	b := shared(t)
	b.do(boss, rules(1, "allow logs to globex where {env=\"prod\"} hide user\nallow logs to globex where {env=\"test\"}\nallow metrics to *"))
	b.do(lord, give(2, `grant 5 from initech to globex logs until 100 depth 0`))
	b.do(lord, give(3, `grant 3 from initech to globex any until 50 depth 0 where {env="test"}`))
	own := "globex 6 0 \"b2\" {env=\"test\", user=\"ub\"}\n"
	is(t, "the first rule", b.body(bob, lines(1, "{}")), own+"initech 6 0 \"c2\" {env=\"test\", user=\"uc\"}\nglobex 5 0 \"b1\" {env=\"prod\", user=\"ub\"}\nacme 5 0 \"a1\" {env=\"prod\"}\n")
	is(t, "the second rule", b.body(bob, lines(1, `{user!=""}`)), own+"acme 6 0 \"a2\" {env=\"test\", user=\"ua\"}\ninitech 6 0 \"c2\" {env=\"test\", user=\"uc\"}\nglobex 5 0 \"b1\" {env=\"prod\", user=\"ub\"}\n")
	b.tick(50)
	is(t, "the other grant", b.body(bob, lines(1, `{env="prod"}`)), "globex 5 0 \"b1\" {env=\"prod\", user=\"ub\"}\nacme 5 0 \"a1\" {env=\"prod\"}\ninitech 5 0 \"c1\" {env=\"prod\", user=\"uc\"}\n")
	is(t, "metrics", b.body(bob, metrics(1, "sum by (tenant) (up)", 6)), "{tenant=\"acme\"} 11\n{tenant=\"globex\"} 22\n")
	is(t, "metrics of initech", b.body(eve, metrics(1, "sum by (tenant) (up)", 6)), "{tenant=\"acme\"} 11\n{tenant=\"initech\"} 33\n")
	is(t, "spans", b.body(bob, spans(1, "spans limit 1")), "globex 6 8 \"sub\" 0200000000000000 {env=\"test\", user=\"ub\"}\n")
	is(t, "acme sees its own", b.body(ann, lines(1, `{env="prod"}`)), "acme 5 0 \"a1\" {env=\"prod\", user=\"ua\"}\n")
	b.tick(100)
	is(t, "no grant", b.body(bob, lines(1, `{env="test"}`)), own)
}

// A grant stands behind the rules: it is taken where none of them can be.
func TestGrantsBehindRules(t *testing.T) {
	b := shared(t)
	b.do(boss, rules(1, `allow logs to globex where {env="prod"} hide user`))
	b.do(boss, give(2, "grant 1 from acme to globex any until 100 depth 1"))
	is(t, "by the rule", b.body(bob, lines(1, `{env!=""}`)), "globex 6 0 \"b2\" {env=\"test\", user=\"ub\"}\nglobex 5 0 \"b1\" {env=\"prod\", user=\"ub\"}\nacme 5 0 \"a1\" {env=\"prod\"}\n")
	is(t, "by the grant", b.body(bob, lines(1, `{user="ua"}`)), "acme 6 0 \"a2\" {env=\"test\", user=\"ua\"}\nacme 5 0 \"a1\" {env=\"prod\", user=\"ua\"}\n")
	is(t, "what is handed on", b.body(eve, lines(1, `{user="ua"}`)), "")
	b.do(chief, give(3, `grant 2 from globex to initech logs until 90 depth 0 under 1 where {env="test"}`))
	is(t, "what is handed on", b.body(eve, lines(1, `{user="ua"}`)), "acme 6 0 \"a2\" {env=\"test\", user=\"ua\"}\n")
	is(t, "Owners", strings.Join(b.Owners("initech"), " "), "acme initech")
	b.do(boss, revoke(4, 1))
	is(t, "and taken back", b.body(eve, lines(1, `{user="ua"}`)), "")
}

// A view with which the matchers are too many is passed over.
func TestTooManyMatchers(t *testing.T) {
	b := shared(t)
	b.do(boss, rules(1, "allow logs to globex where {a=\"\", b=\"\", env=\"prod\"}\nallow logs to globex where {env=\"prod\"}"))
	query := func(n int) string {
		l := []string{`env="prod"`}
		for i := range n {
			l = append(l, "k"+strconv.Itoa(i)+`!="x"`)
		}
		return "{" + strings.Join(l, ", ") + "}"
	}
	acme := "globex 5 0 \"b1\" {env=\"prod\", user=\"ub\"}\nacme 5 0 \"a1\" {env=\"prod\", user=\"ua\"}\n"
	is(t, "all", b.body(bob, lines(1, query(5))), acme)
	is(t, "the second one", b.body(bob, lines(2, query(6))), acme)
	is(t, "the second one", b.body(bob, lines(3, query(7))), acme)
	b.do(boss, rules(1, "allow logs to globex where {a=\"\", b=\"\", env=\"prod\"}"))
	is(t, "none", b.body(bob, lines(4, query(6))), "globex 5 0 \"b1\" {env=\"prod\", user=\"ub\"}\n")
}

// Of a trace each view can be: the first one is taken, whatever it hides.
func TestTrace(t *testing.T) {
	b := shared(t)
	b.do(boss, rules(1, "allow traces to globex where {env=\"test\"} hide user, env\nallow traces to globex"))
	b.do(lord, give(2, "grant 1 from initech to globex traces until 100 depth 0"))
	is(t, "a trace", b.body(bob, trace(3)), "0 globex 5 9 \"top\" 0100000000000000 {env=\"prod\", user=\"ub\"}\n1 globex 6 8 \"sub\" 0200000000000000 {env=\"test\", user=\"ub\"}\n"+
		"0 acme 6 8 \"sub\" 0200000000000000 {}\n"+
		"0 initech 5 9 \"top\" 0100000000000000 {env=\"prod\", user=\"uc\"}\n1 initech 6 8 \"sub\" 0200000000000000 {env=\"test\", user=\"uc\"}\n")
	is(t, "spans", b.body(bob, spans(4, `spans {env="prod"}`)), "globex 5 9 \"top\" 0100000000000000 {env=\"prod\", user=\"ub\"}\nacme 5 9 \"top\" 0100000000000000 {env=\"prod\", user=\"ua\"}\ninitech 5 9 \"top\" 0100000000000000 {env=\"prod\", user=\"uc\"}\n")
}

// What is seen is seen at the time at which a query is done, not that at which it came.
func TestSeenWhenDone(t *testing.T) {
	b := shared(t)
	b.do(boss, give(1, "grant 1 from acme to globex logs until 100 depth 0"))
	b.come(bob, lines(2, `{user="ua"}`))
	b.slots(1)
	b.tick(100)
	is(t, "the grant is over", tell(b.slots(1)), "globex 2 @"+strconv.FormatInt(b.Slot()-1, 10)+" 0 \"\"\n")
	b.come(bob, lines(3, `{user="ua"}`))
	b.slots(1)
	b.come(boss, rules(4, "allow logs to globex hide env"))
	is(t, "a policy has come", b.slots(1)[0].Out.Body, "acme 6 0 \"a2\" {user=\"ua\"}\nacme 5 0 \"a1\" {user=\"ua\"}\n")
}

// Errors of queries: the answer's, without a text; nothing is kept.
func TestQueryErrors(t *testing.T) {
	c := plain(slots.Fair, "acme", "globex")
	c.Budget, c.Room = 12, 1000
	b := made(t, c, disk.New())
	if e := b.why(ann, metrics(1, "1 / 0", 0)); e != api.ErrZero {
		t.Errorf("1 / 0 = %d", e)
	}
	deep := strings.Repeat("1 + ", 6) + "1"
	if e := b.why(ann, metrics(1, deep, 0)); e != api.ErrBudget {
		t.Errorf("%s = %d", deep, e)
	}
	is(t, "within the budget", b.body(ann, metrics(1, deep[4:], 0)), "6\n")
	var l []api.Record
	for i := range int64(13) {
		l = append(l, line(i, "x"))
	}
	b.do(ann, put(2, l[:12]...))
	if s := b.body(ann, lines(3, "{} | limit 1")); s != "acme 11 0 \"x\" {}\n" {
		t.Errorf("lines: %s", s)
	}
	b.do(ann, put(4, l[12]))
	if e := b.why(ann, lines(5, "{} | limit 1")); e != api.ErrBudget {
		t.Errorf("too many lines = %d", e)
	}
	b.do(ann, put(6, span("a", 1, 2, 1, 0), span("b", 1, 2, 2, 1), span("c", 1, 2, 3, 2)))
	is(t, "spans", b.body(ann, spans(7, "spans limit 1")), "acme 1 2 \"a\" 0100000000000000 {}\n")
	is(t, "spans with others under them", b.body(ann, spans(8, "spans with descendant limit 1")), "acme 1 2 \"a\" 0100000000000000 {}\n")
	b.do(ann, put(9, span("d", 1, 2, 4, 3)))
	if e := b.why(ann, spans(8, "spans with descendant limit 1")); e != api.ErrBudget {
		t.Errorf("too many spans = %d", e)
	}
	is(t, "misses", counts(b, ann), "hits 0 misses 8")
	if e := b.why(ann, metrics(1, "1 / 0", 0)); e != api.ErrZero {
		t.Errorf("1 / 0 = %d", e)
	}
	is(t, "misses", counts(b, ann), "hits 0 misses 9")
}

// A text of MaxText bytes is an answer, a longer one ErrSize; and that is not kept.
func TestTextIsTooLong(t *testing.T) {
	b := fresh(t, "acme")
	long := func(n int) string { return strings.Repeat("x", n) }
	// acme 1 0 "..." {} and a byte 10: 15 bytes more than its text.
	half := api.MaxText / 2
	b.do(ann, put(1, line(1, long(half-15))))
	b.do(ann, put(2, line(2, long(half-15))))
	if s := b.body(ann, lines(3, "{}")); len(s) != api.MaxText {
		t.Errorf("the text has %d bytes", len(s))
	}
	b.do(ann, put(4, line(3, "")))
	if e := b.why(ann, lines(5, "{}")); e != api.ErrSize {
		t.Errorf("a text that is too long = %d", e)
	}
	if e := b.why(ann, lines(5, "{}")); e != api.ErrSize {
		t.Errorf("a text that is too long = %d", e)
	}
	is(t, "nothing was kept", strings.Split(b.body(ann, stats(6)), "\n")[2], "hits 0 misses 3")
	c := plain(slots.Fair, "acme")
	c.Room = api.MaxStore
	b = made(t, c, disk.New())
	for i := range 2 {
		var l []api.Record
		for j := range 1000 {
			r := span("s", 1, 2, byte(j), 0)
			r.Id[1], r.Id[2], r.Id[3] = byte(j>>8), byte(i), 1
			l = append(l, r)
		}
		b.do(ann, put(1, l...))
	}
	if e := b.why(ann, trace(2)); e != api.ErrSize {
		t.Errorf("a trace that is too long = %d", e)
	}
}

// counts is how often a tenant's answers were kept, and were not.
func counts(b *bench, peer string) string {
	b.t.Helper()
	return strings.Split(b.body(peer, stats(99)), "\n")[2]
}

// What is kept: an answer to the same query at the same times, as long as what is seen is the same.
func TestKept(t *testing.T) {
	b := shared(t)
	step := func(what, want string) {
		t.Helper()
		is(t, what, counts(b, bob), want)
	}
	first := b.body(bob, lines(1, "{}"))
	step("the first time", "hits 0 misses 1")
	is(t, "again", b.body(bob, lines(2, " { } ")), first)
	step("the same text, written otherwise", "hits 1 misses 1")
	q := lines(3, "{}")
	q.From = 1
	b.body(bob, q)
	q.To--
	b.body(bob, q)
	step("other times", "hits 1 misses 3")
	b.body(bob, metrics(4, "up", 7))
	b.body(bob, metrics(4, "up", 8))
	b.body(bob, metrics(4, "up", 7))
	step("metrics", "hits 2 misses 5")
	b.body(bob, spans(5, "spans"))
	b.body(bob, trace(5))
	b.body(bob, trace(5))
	step("spans; of traces and stats nothing", "hits 2 misses 6")
	is(t, "what another one keeps", counts(b, ann), "hits 0 misses 0")
	b.body(ann, lines(1, "{}"))
	is(t, "what another one keeps", counts(b, ann), "hits 0 misses 1")
	b.do(ann, put(6, line(9, "z")))
	b.body(bob, lines(1, "{}"))
	step("what another one puts that is not seen", "hits 3 misses 6")
	b.do(bob, put(7, line(7, "z")))
	if s := b.body(bob, lines(1, "{}")); !strings.HasPrefix(s, "globex 7 0 \"z\" {}\n") {
		t.Errorf("behind a put: %s", s)
	}
	step("what it puts itself", "hits 3 misses 7")
	if e := b.why(bob, put(8, point("up", 5, 1, "env", "prod", "user", "ub"))); e != api.ErrOld {
		t.Errorf("an old point = %d", e)
	}
	b.body(bob, lines(1, "{}"))
	step("a put that is refused", "hits 4 misses 7")
	b.do(chief, retain(9, 1))
	b.body(bob, lines(1, "{}"))
	step("a retain by which nothing goes", "hits 5 misses 7")
	b.do(chief, retain(10, 6))
	b.body(bob, lines(1, "{}"))
	step("one by which something goes", "hits 5 misses 8")
}

// What is kept hangs on what is seen of others, too.
func TestKeptOfOthers(t *testing.T) {
	b := shared(t)
	ask := func(what, want string) {
		t.Helper()
		b.body(bob, lines(1, "{}"))
		is(t, what, counts(b, bob), want)
	}
	ask("its own", "hits 0 misses 1")
	b.do(boss, rules(1, `allow logs to globex where {env="prod"} hide user`))
	ask("a view more", "hits 0 misses 2")
	ask("again", "hits 1 misses 2")
	b.do(boss, rules(1, "# another text\nallow logs to globex where {env=\"prod\"} hide user"))
	ask("the same view", "hits 2 misses 2")
	b.do(boss, rules(1, `allow logs to globex where {env="prod"} hide env`))
	ask("a view that hides another key", "hits 2 misses 3")
	b.do(ann, put(2, point("x", 1, 1)))
	ask("its owner's store has changed", "hits 2 misses 4")
	b.do(boss, rules(1, ""))
	ask("its own as at first", "hits 3 misses 4")
	b.do(boss, rules(1, `allow logs to globex where {env="prod"} hide user`))
	ask("the first view, with another stamp", "hits 3 misses 5")
	b.crash()
	b.do(bob, put(2))
	is(t, "behind a crash", counts(b, bob), "hits 0 misses 0")
	ask("nothing is kept", "hits 0 misses 1")
}

// MaxCache answers of each tenant are kept, those that were asked for last.
func TestKeptAtMost(t *testing.T) {
	c := plain(slots.Fair, "acme")
	c.Tenants[0].Rate, c.Tenants[0].Burst = quota.MaxRate, quota.MaxBurst
	b := made(t, c, disk.New())
	now := int64(0)
	ask := func(at int64) {
		now += 1e9
		b.tick(now)
		b.body(ann, metrics(1, "1", at))
	}
	for at := range int64(api.MaxCache) {
		ask(at)
	}
	ask(0)
	ask(100)
	is(t, "one more", counts(b, ann), "hits 1 misses 65")
	ask(0)
	ask(2)
	is(t, "those that stay", counts(b, ann), "hits 3 misses 65")
	ask(1)
	is(t, "that which has gone", counts(b, ann), "hits 3 misses 66")
}

// Stats: four lines.
func TestStats(t *testing.T) {
	c := plain(slots.Fair, "acme", "globex")
	c.Tenants[0].Rate, c.Tenants[0].Burst = 0, 10*api.One
	b := made(t, c, disk.New())
	head, _ := b.Head("acme")
	is(t, "at first", b.body(ann, stats(1)), "points 0 lines 0 spans 0 version 0\ntaken 1 refused 0 cost 1000000\nhits 0 misses 0\nlog 0 "+sha.Hex(head)+"\n")
	b.do(bob, put(2, line(1, "x")))
	b.do(ann, put(2, line(1, "x"), line(1, "x"), line(2, "x")))
	b.do(ann, put(3, point("up", 1, 1), point("up", 2, 1)))
	b.do(ann, put(4, span("a", 1, 2, 1, 0)))
	b.do(boss, retain(5, 2))
	b.body(ann, lines(6, "{}"))
	b.body(ann, lines(7, "{}"))
	b.come(ann, lines(8, "{}"))
	b.do(boss, rules(9, ""))
	head, n := b.Head("acme")
	if n != 4 {
		t.Errorf("acme has %d entries", n)
	}
	is(t, "then", b.body(ann, stats(1)), "points 1 lines 1 spans 1 version 7\ntaken 8 refused 1 cost 10000000\nhits 1 misses 1\nlog 4 "+sha.Hex(head)+"\n")
	b.tick(5)
	b.crash()
	is(t, "behind a crash", b.body(ann, stats(1)), "points 1 lines 1 spans 1 version 7\ntaken 1 refused 0 cost 1000000\nhits 0 misses 0\nlog 4 "+sha.Hex(head)+"\n")
}

// P24.8: of a denying rule nothing is seen by any rule, in answers of no kind.
func TestDenied(t *testing.T) {
	b := shared(t)
	b.do(boss, rules(1, "allow any to *\ndeny any to globex where {env=\"prod\"}"))
	for _, r := range []struct {
		what string
		got  string
	}{
		{"lines", b.body(bob, lines(1, "{}"))},
		{"spans", b.body(bob, spans(1, "spans"))},
		{"metrics", b.body(bob, metrics(1, "up", 9))},
		{"a trace", b.body(bob, trace(1))},
	} {
		if strings.Contains(r.got, "a1") || !strings.Contains(r.got, "acme") || strings.Count(r.got, "ua") != 1 {
			t.Errorf("%s: %s", r.what, r.got)
		}
	}
	b.do(boss, rules(1, "allow any to *\ndeny logs to globex"))
	if s := b.body(bob, lines(1, "{}")); strings.Contains(s, "acme") {
		t.Errorf("lines: %s", s)
	}
}
