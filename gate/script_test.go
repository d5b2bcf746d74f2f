package gate

import (
	"math"
	"math/rand"
	"slices"
	"strconv"
	"strings"
	"testing"

	"belfry/api"
	"belfry/audit"
	"belfry/disk"
	"belfry/frame"
	"belfry/otlp"
	"belfry/quota"
	"belfry/slots"
)

var tenants = []string{"acme", "globex", "initech"}

func pick[T any](r *rand.Rand, l ...T) T {
	return l[r.Intn(len(l))]
}

// someAttrs are attributes of which user is what owners hide: its value names the owner.
func someAttrs(r *rand.Rand, tenant string) []string {
	var l []string
	if r.Intn(2) == 0 {
		l = append(l, "env", pick(r, "prod", "test"))
	}
	if r.Intn(2) == 0 {
		l = append(l, "user", "secret-"+tenant)
	}
	return l
}

func someRecord(r *rand.Rand, tenant string, kind int) api.Record {
	a := someAttrs(r, tenant)
	switch kind {
	case api.KPoint:
		return point(pick(r, "up", "down"), r.Int63n(40), r.Int63n(9), a...)
	case api.KLine:
		return line(r.Int63n(40), pick(r, "hi", "ho", "a \"b\"\n"), a...)
	}
	at := r.Int63n(30)
	x := span(pick(r, "GET", "query"), at, at+r.Int63n(10), byte(1+r.Intn(12)), byte(r.Intn(13)), a...)
	x.Trace[0] = byte(1 + r.Intn(2))
	return x
}

func somePut(r *rand.Rand, tenant string) frame.Request {
	kind := 1 + r.Intn(3)
	var l []api.Record
	for range r.Intn(4) {
		l = append(l, someRecord(r, tenant, kind))
	}
	b, _ := otlp.Encode(kind, l...)
	if r.Intn(10) == 0 {
		b = append(b, padded(4096*r.Intn(3))...)
	}
	return frame.Request{Op: frame.Put, Kind: kind, Body: b}
}

func someQuery(r *rand.Rand) frame.Request {
	from := r.Int63n(20)
	switch r.Intn(3) {
	case 0:
		return metrics(0, pick(r, "up", "sum(up)", "sum by (env) (up) / 2", "sum by (tenant) (up)", `count(up{env="prod"})`, `up{user!=""}`, "rate(up[20ns])", "1 / 0", "1 + 2 * 3", "avg by (user) (up)", "up +", "up / down"), r.Int63n(50))
	case 1:
		q := lines(0, pick(r, "{}", `{env="prod"}`, `{env!="prod"} |= "hi"`, `{user=~"secret"}`, `{} | user!="x" | limit 3`, "{} | level 3", "{} | limit 1", "{"))
		q.From, q.To = from, from+r.Int63n(30)
		return q
	}
	q := spans(0, pick(r, "spans", `spans named "GET"`, `spans least 3ns {env="prod"}`, `spans with child named "query"`, `spans {env="prod"} with descendant`, `spans {user!=""} limit 2`, "span"))
	q.From, q.To = from, from+r.Int63n(30)
	return q
}

func someRules(r *rand.Rand) string {
	var l []string
	for range r.Intn(4) {
		l = append(l, pick(r, "allow", "allow", "deny")+" "+pick(r, "any", "metrics", "logs", "traces")+" to "+pick(r, append(tenants, "*")...)+
			pick(r, "", ` where {env="prod"}`, ` where {env!="prod"}`))
		if strings.HasPrefix(l[len(l)-1], "allow") {
			l[len(l)-1] += pick(r, "", " hide user", " hide user, env")
		}
	}
	return strings.Join(l, "\n")
}

func someGrant(r *rand.Rand) string {
	s := "grant " + strconv.Itoa(1+r.Intn(6)) + " from " + pick(r, tenants...) + " to " + pick(r, append(tenants, "zed")...) + " " +
		pick(r, "any", "metrics", "logs", "traces") + " until " + strconv.Itoa(r.Intn(60)) + " depth " + strconv.Itoa(r.Intn(4))
	if r.Intn(3) == 0 {
		s += " under " + strconv.Itoa(1+r.Intn(6))
	}
	return s + pick(r, "", "", ` where {env="prod"}`, " where")
}

// someRequest is one that a tenant's user may ask, or, if it is an administrator, its own.
func someRequest(r *rand.Rand, tenant string, admin bool) frame.Request {
	var x frame.Request
	switch n := r.Intn(10); {
	case admin && n < 2:
		x = rules(0, someRules(r))
	case admin && n < 6:
		x = give(0, someGrant(r))
	case admin && n < 7:
		x = revoke(0, 1+r.Int63n(6))
	case admin && n < 8:
		x = retain(0, r.Int63n(30))
	case n < 4:
		x = somePut(r, tenant)
	case n < 8:
		x = someQuery(r)
	case n < 9:
		x = trace(0)
		x.Body[0] = byte(1 + r.Intn(2))
	default:
		x = stats(0)
	}
	x.Id = r.Int63n(1000)
	return x
}

// script makes events by chance: so many of 40 are slots; its clock is that of the gateway.
type script struct {
	*rand.Rand
	pace int
	now  int64
}

func newScript(r *rand.Rand) *script {
	return &script{Rand: r, pace: pick(r, 4, 12, 20)}
}

func (s *script) event() api.Event {
	r := s.Rand
	switch n := r.Intn(40); {
	case n < s.pace:
		return api.Event{Kind: api.EvSlot}
	case n < s.pace+4:
		s.now += pick[int64](r, 0, 0, 1, 1, 1, 2, 2, 5, 5, 10, 1000000000)
		return api.Event{Kind: api.EvTick, N: pick(r, s.now, s.now, s.now, s.now, s.now-1, -1)}
	case n < s.pace+5 && r.Intn(2) == 0:
		return api.Event{Kind: api.EvCrash, Keeps: someKeeps(r)}
	case n < s.pace+6 && r.Intn(4) == 0:
		return api.Event{Kind: pick(r, 0, 5, -1)}
	}
	tenant := pick(r, tenants...)
	admin := r.Intn(3) == 0
	peer := "belfry:" + tenant + "/someone"
	if admin && r.Intn(20) > 0 {
		peer += "#admin"
	}
	b, _ := frame.Write(someRequest(r, tenant, admin))
	switch r.Intn(60) {
	case 0:
		peer = pick(r, "", "belfry:acme", "belfry:zed/someone#admin", "belfry:acme/someone#")
	case 1:
		b = b[:r.Intn(len(b)+1)]
	case 2:
		b = append(slices.Clone(b), 0)
	case 3:
		b[r.Intn(len(b))] ^= 1 << r.Intn(8)
	}
	return api.Event{Kind: api.EvRequest, Peer: peer, B: b}
}

func someKeeps(r *rand.Rand) []api.Keep {
	var l []api.Keep
	for range r.Intn(6) {
		k := api.Keep{Name: pick(r, "adm.log", "t0.log", "t1.log", "t2.log", "t3.log", "x")}
		for range r.Intn(6) {
			k.N = append(k.N, pick(r, math.MaxInt, math.MaxInt, 4096, 200, 9, 0, -1))
		}
		l = append(l, k)
	}
	return l
}

func someConfig(r *rand.Rand) Config {
	c := Config{Mode: r.Intn(2), Budget: pick(r, 3, 30, 200, api.MaxSteps), Room: pick(r, 8, 100, api.MaxStore)}
	for _, i := range r.Perm(3) {
		c.Tenants = append(c.Tenants, Tenant{tenants[i], 1 + r.Intn(16), pick[int64](r, 0, 100000, api.One, quota.MaxRate), pick[int64](r, 8*api.One, 100*api.One, quota.MaxBurst)})
	}
	return c
}

// P2: for scripts of all kinds the answers, and all that is told, are those of the model; P24.7: each log is accepted with its head.
func TestAsTheModel(t *testing.T) {
	seen := map[api.Errno]int{}
	for seed := range int64(120) {
		r := rand.New(rand.NewSource(seed))
		c := someConfig(r)
		g, e := New(c, disk.New())
		if e != api.OK {
			t.Fatalf("New = %d", e)
		}
		m := newModel(c)
		s := newScript(r)
		for i := range 150 {
			ev := s.event()
			got, e := g.Step(ev)
			want, f := m.step(ev)
			if tell(got) != tell(want) || e != f {
				t.Fatalf("seed %d, event %d, %.200v: %s, %d, want %s, %d", seed, i, ev, tell(got), e, tell(want), f)
			}
			for _, x := range got {
				seen[x.Out.Why]++
			}
			if r.Intn(8) > 0 && ev.Kind != api.EvCrash {
				continue
			}
			if x, y := told(g, tenants), told(m, tenants); x != y {
				t.Fatalf("seed %d, event %d, %.200v: what is told:\n%s\nwant:\n%s", seed, i, ev, x, y)
			}
			for _, name := range append(tenants, "") {
				head, _ := g.Head(name)
				if e, _ := audit.Verify(g.Log(name), head); e != api.OK {
					t.Fatalf("seed %d, event %d: Verify of %q = %d", seed, i, name, e)
				}
			}
		}
	}
	for _, e := range []api.Errno{api.OK, api.ErrNone, api.ErrTwice, api.ErrFull, api.ErrShort, api.ErrOld, api.ErrZero, api.ErrIdent, api.ErrRule, api.ErrGrant, api.ErrDenied, api.ErrQuery, api.ErrBudget, api.ErrQuota, api.ErrQueue} {
		if seen[e] == 0 {
			t.Errorf("no answer has the error %d", e)
		}
	}
}

// to are the answers to a tenant.
func to(l []Reply, tenant string) string {
	return tell(slices.DeleteFunc(slices.Clone(l), func(r Reply) bool { return r.Tenant != tenant }))
}

// P24.5, P4: in fixed turns the answers to a tenant are the same whatever those ask whose signals it never may see.
func TestNobodyLearns(t *testing.T) {
	changed := 0
	for seed := range int64(200) {
		r := rand.New(rand.NewSource(seed))
		c := someConfig(r)
		c.Mode = slots.Fixed
		s := newScript(r)
		var script []api.Event
		for range 200 {
			if ev := s.event(); ev.Kind >= api.EvRequest && ev.Kind <= api.EvCrash && (ev.Kind != api.EvTick || ev.N == s.now) {
				script = append(script, ev)
			}
		}
		a := made(t, c, disk.New())
		reached := map[string]int{}
		answers := map[string]string{}
		others := map[string]string{}
		for _, ev := range script {
			l := a.step(ev)
			for _, viewer := range tenants {
				answers[viewer] += to(l, viewer)
				for _, owner := range a.Owners(viewer) {
					reached[viewer+" "+owner]++
				}
			}
		}
		for _, viewer := range tenants {
			b := made(t, c, disk.New())
			for _, ev := range script {
				l, other := otherwise(t, r, ev, func(tenant string) bool { return reached[viewer+" "+tenant] == 0 })
				for _, x := range l {
					others[viewer] += to(b.step(x), viewer)
				}
				changed += other
			}
			if answers[viewer] != others[viewer] {
				t.Fatalf("seed %d: the answers to %s:\n%s\nwant:\n%s", seed, viewer, others[viewer], answers[viewer])
			}
		}
	}
	if changed < 1000 {
		t.Errorf("%d requests of those who are not seen", changed)
	}
}

// otherwise is an event; or, if it is the request of a user who is not seen, other requests in its place, and 1.
func otherwise(t *testing.T, r *rand.Rand, ev api.Event, unseen func(tenant string) bool) ([]api.Event, int) {
	t.Helper()
	tenant, user := "", false
	for _, name := range tenants {
		if ev.Kind == api.EvRequest && ev.Peer == "belfry:"+name+"/someone" {
			tenant, user = name, true
		}
	}
	if !user || !unseen(tenant) {
		return []api.Event{ev}, 0
	}
	var l []api.Event
	for range r.Intn(3) {
		x := someRequest(r, tenant, false)
		l = append(l, api.Event{Kind: api.EvRequest, Peer: ev.Peer, B: bytesOf(t, x)})
	}
	return l, 1
}

// P24.8, P10: what rules hide, and what nothing gives, is in no answer to another one.
func TestNothingHiddenIsTold(t *testing.T) {
	seen := 0
	for seed := range int64(200) {
		r := rand.New(rand.NewSource(seed))
		b := made(t, plain(r.Intn(2), tenants...), disk.New())
		s := newScript(r)
		for range 150 {
			ev := s.event()
			if x, e := frame.Read(ev.B); e == api.OK && (x.Op == frame.Policy || x.Op == frame.Grant) {
				// initech gives nothing; the others hide user from all.
				tenant := pick(r, "acme", "globex")
				ev.Peer = "belfry:" + tenant + "/someone#admin"
				ev.B = bytesOf(t, rules(x.Id, "allow any to * hide user"+pick(r, "", ", env")))
			}
			l, _ := b.Step(ev)
			for _, x := range l {
				for _, owner := range tenants {
					if owner == x.Tenant {
						continue
					}
					if strings.Contains(x.Out.Body, "secret-"+owner) || strings.Contains(x.Out.Body, "initech") && x.Tenant != "initech" {
						t.Fatalf("seed %d: %s is told %s", seed, x.Tenant, x.Out.Body)
					}
					if strings.Contains(x.Out.Body, owner) {
						seen++
					}
				}
			}
		}
	}
	if seen < 100 {
		t.Errorf("%d answers tell something of others", seen)
	}
}

// P24.6, P5: behind a crash, and behind New on the same disk, there is what was answered, and of each log some first ones of the others.
func TestNothingIsLost(t *testing.T) {
	for seed := range int64(200) {
		r := rand.New(rand.NewSource(seed))
		b := made(t, plain(slots.Fair, tenants...), disk.New())
		s := newScript(r)
		safe := map[string]string{}
		for range 120 {
			ev := s.event()
			was := map[string]string{}
			for _, name := range append(tenants, "") {
				was[name] = string(b.Log(name))
			}
			_, e := b.Step(ev)
			for name, log := range was {
				now := string(b.Log(name))
				switch {
				case ev.Kind == api.EvTick && e == api.OK:
					safe[name] = now
				case ev.Kind != api.EvCrash && !strings.HasPrefix(now, log):
					t.Fatalf("seed %d: %v takes something from the log of %q", seed, ev, name)
				case ev.Kind == api.EvCrash && (!strings.HasPrefix(now, safe[name]) || !strings.HasPrefix(log, now)):
					t.Fatalf("seed %d: behind %v the log of %q is not what was answered", seed, ev, name)
				case ev.Kind == api.EvCrash:
					safe[name] = now
				}
			}
			if ev.Kind == api.EvCrash {
				o := made(t, plain(slots.Fair, tenants...), b.d.Copy())
				o.tick(b.Now())
				x, y := told(o, tenants), told(b, tenants)
				if x[strings.Index(x, "\\n"):] != y[strings.Index(y, "\\n"):] {
					t.Fatalf("seed %d: a new gateway tells\n%s\nwant\n%s", seed, x, y)
				}
			}
		}
	}
}

// P1: whatever comes, a call ends; beside an error nothing goes out, and nothing changes but by a crash.
func TestAnything(t *testing.T) {
	for seed := range int64(20) {
		r := rand.New(rand.NewSource(seed))
		b := made(t, someConfig(r), disk.New())
		numbers := []int64{0, 1, -1, 1 << 20, api.MaxTime, api.MaxTime + 1, math.MinInt64, math.MaxInt64}
		for range 500 {
			ev := newScript(r).event()
			for range r.Intn(3) {
				switch r.Intn(5) {
				case 0:
					ev.Kind = r.Intn(7) - 1
				case 1:
					ev.Peer = ev.Peer[:r.Intn(len(ev.Peer)+1)] + string(rune(r.Intn(200)))
				case 2:
					ev.B = make([]byte, r.Intn(40))
					r.Read(ev.B)
				case 3:
					ev.N = pick(r, numbers...)
				case 4:
					ev.Keeps = append(ev.Keeps, keep(pick(r, "", "t0.log", "adm.log", "\xff"), int(pick(r, numbers...)), int(pick(r, numbers...))))
				}
			}
			was := stateOf(b.Gate)
			l, e := b.Step(ev)
			if e != api.OK && (len(l) > 0 || stateOf(b.Gate) != was) {
				t.Fatalf("seed %d: Step(%.200v) = %v, %d", seed, ev, l, e)
			}
			for _, x := range l {
				if _, e := frame.Pack(x.Out); e != api.OK || x.Out.Why != api.OK && x.Out.Body != "" {
					t.Fatalf("seed %d: Step(%.200v) = %v", seed, ev, l)
				}
			}
		}
	}
}
