package gate

import (
	"math"
	"strconv"
	"strings"
	"testing"

	"belfry/api"
	"belfry/audit"
	"belfry/disk"
	"belfry/frame"
	"belfry/slots"
	"belfry/wal"
)

// texts are the texts of a tenant's lines, as they came.
func texts(b *bench, tenant string) string {
	var s strings.Builder
	for _, r := range b.Records(tenant) {
		s.WriteString(r.Text)
	}
	return s.String()
}

func keep(name string, n ...int) api.Keep {
	return api.Keep{Name: name, N: n}
}

// P24.6: of writes that were not synced as much is kept as the first Keep of a log's file says: records that are kept whole, up to the first that is not.
func TestKeeps(t *testing.T) {
	const all = math.MaxInt
	for _, c := range []struct {
		what string
		l    []api.Keep
		want string // of acme, of globex; how many grants
	}{
		{"nothing", nil, "a / x / 0"},
		{"all", []api.Keep{keep("t0.log", all, all, all), keep("t1.log", all), keep("adm.log", all, all)}, "abcd / xy / 2"},
		{"the first ones", []api.Keep{keep("t0.log", all, all), keep("adm.log", all)}, "abc / x / 1"},
		{"a torn one", []api.Keep{keep("t0.log", all, 9, all)}, "ab / x / 0"},
		{"a gap", []api.Keep{keep("t0.log", 0, all, all), keep("adm.log", 0, all)}, "a / x / 0"},
		{"numbers below 0", []api.Keep{keep("t0.log", all, -1, all), keep("t1.log", math.MinInt)}, "ab / x / 0"},
		{"more numbers than writes", []api.Keep{keep("t0.log", all, all, all, 1, -1, all), keep("t1.log", all, all)}, "abcd / xy / 0"},
		{"the first Keep of a name", []api.Keep{keep("t0.log", all), keep("t0.log", all, all, all), keep("t1.log"), keep("t1.log", all)}, "ab / x / 0"},
		{"other files", []api.Keep{keep("t9.log", 1), keep("", -1), keep("t0.ckp", 1), keep("other", all), keep("t1.log", all)}, "a / xy / 0"},
		{"a log without a file", []api.Keep{keep("t2.log", all), keep("t0.log", all)}, "ab / x / 0"},
	} {
		b := fresh(t, "acme", "globex", "initech")
		b.do(ann, put(1, line(1, "a")))
		b.do(bob, put(2, line(1, "x")))
		b.tick(1)
		b.d.Append("other", []byte("abc"))
		b.do(ann, put(3, line(2, "b")))
		b.do(boss, give(4, "grant 1 from acme to globex any until 9 depth 0"))
		b.do(ann, put(5, line(3, "c")))
		b.do(bob, put(6, line(2, "y")))
		b.do(chief, give(7, "grant 2 from globex to acme any until 9 depth 0"))
		b.do(ann, put(8, line(4, "d")))
		b.crash(c.l...)
		is(t, c.what, texts(b, "acme")+" / "+texts(b, "globex")+" / "+strconv.Itoa(len(b.Grants())), c.want)
		if n, e := b.d.Len("other"); n != 0 || e != api.OK || b.d.Pending() != 0 {
			t.Errorf("%s: another file has %d bytes, %d writes are not safe", c.what, n, b.d.Pending())
		}
		for _, name := range []string{"", "acme", "globex", "initech"} {
			head, _ := b.Head(name)
			if e, _ := audit.Verify(b.Log(name), head); e != api.OK {
				t.Errorf("%s: Verify of %q = %d", c.what, name, e)
			}
		}
		// It goes on from there.
		b.do(ann, put(9, line(9, "z")))
		b.tick(2)
		b.crash()
		if s := texts(b, "acme"); !strings.HasSuffix(s, "z") {
			t.Errorf("%s: behind one more crash: %s", c.what, s)
		}
	}
}

// The lists of a crash are not changed.
func TestKeepsAreNotChanged(t *testing.T) {
	b := fresh(t, "acme")
	b.do(ann, put(1, line(1, "a")))
	l := []api.Keep{keep("t0.log", -5, 7, 9)}
	b.crash(l...)
	if l[0].N[0] != -5 || len(l[0].N) != 3 {
		t.Errorf("Keeps are %v", l)
	}
}

// P24.6: for every number of bytes that is kept of two writes: what was answered, and some first ones of the others.
func TestEveryTear(t *testing.T) {
	made := func() *bench {
		b := fresh(t, "acme")
		b.do(ann, put(1, line(1, "a")))
		b.tick(1)
		b.do(ann, put(2, line(2, "b")))
		b.do(ann, put(3, line(3, "c")))
		return b
	}
	b := made()
	safe := len(frames(t, string(b.Log("acme")[:len(b.Log("acme"))/3])))
	n, _ := b.d.Len("t0.log")
	each := (n - safe) / 2
	for first := range each + 2 {
		for _, second := range []int{0, 1, each - 1, each, each + 1} {
			b := made()
			b.crash(keep("t0.log", first, second))
			want := "a"
			if first >= each {
				want = "ab"
				if second >= each {
					want = "abc"
				}
			}
			is(t, "a tear at "+strconv.Itoa(first)+", "+strconv.Itoa(second), texts(b, "acme"), want)
		}
	}
}

// A crash: what waits is gone, buckets are full, counts are 0; the clock and the slots go on.
func TestCrashLetsGo(t *testing.T) {
	for _, mode := range []int{slots.Fair, slots.Fixed} {
		c := plain(mode, "acme", "globex")
		c.Tenants[0].Rate, c.Tenants[0].Burst = 0, 4*api.One
		b := made(t, c, disk.New())
		b.tick(7)
		b.come(ann, lines(1, "{}"))
		b.slots(2)
		b.come(ann, lines(2, "{}"))
		b.come(boss, rules(3, ""))
		is(t, "refused", tell(b.come(ann, stats(4))), "acme 4 @2 190 \"\"\n")
		if b.Waiting("acme") == 0 || b.Pending() != 1 {
			t.Errorf("Waiting = %d, Pending = %d", b.Waiting("acme"), b.Pending())
		}
		b.crash()
		if b.Waiting("acme") != 0 || b.Pending() != 0 || b.Now() != 7 || b.Slot() != 2 {
			t.Errorf("Waiting = %d, Pending = %d, Now = %d, Slot = %d", b.Waiting("acme"), b.Pending(), b.Now(), b.Slot())
		}
		is(t, "nothing goes out", tell(append(b.slots(8), b.tick(7)...)), "")
		for i := range int64(3) {
			is(t, "the bucket is full", tell(b.come(ann, stats(i))), "")
		}
		l := b.slots(8)
		if len(l) != 3 || l[0].Out.Slot != 10 || !strings.Contains(l[0].Out.Body, "taken 3 refused 0 cost 3000000\nhits 0 misses 0\n") {
			t.Errorf("answers: %v", l)
		}
	}
}

// Behind a crash a bucket fills from the clock's time on.
func TestBucketBehindCrash(t *testing.T) {
	c := plain(slots.Fair, "acme")
	c.Tenants[0].Rate, c.Tenants[0].Burst = api.One, api.One
	b := made(t, c, disk.New())
	b.tick(5000000000)
	b.come(ann, stats(1))
	b.crash()
	is(t, "it is full", tell(b.come(ann, stats(1))), "")
	is(t, "it is empty", tell(b.come(ann, stats(2))), "acme 2 @0 190 \"\"\n")
	b.tick(5999999999)
	is(t, "it is not full", tell(b.come(ann, stats(3))), "acme 3 @0 190 \"\"\n")
	b.tick(6000000000)
	is(t, "it is", tell(b.come(ann, stats(4))), "")
}

// P24.1, P5: a gateway on a disk with logs has what they have, at the time 0 and the slot 0.
func TestNewOnLogs(t *testing.T) {
	b := shared(t)
	b.do(boss, rules(1, "allow logs to globex"))
	b.do(lord, give(2, "grant 1 from initech to globex any until 9 depth 1"))
	b.do(lord, give(3, "grant 2 from initech to acme any until 9 depth 1"))
	b.do(lord, revoke(4, 1))
	b.do(boss, retain(5, 6))
	b.tick(4)
	want := stateOf(b.Gate)
	want = want[strings.Index(want, "\\n"):]
	x := made(t, plain(slots.Fixed, "initech", "acme", "globex"), b.d)
	got := stateOf(x.Gate)
	if !strings.HasPrefix(got, "0 0 0 ") {
		t.Errorf("at first: %.20s", got)
	}
	is(t, "what it has", got[strings.Index(got, "\\n"):], want)
	// The logs go on, whatever the clock was.
	x.do(ann, put(6, line(9, "z")))
	x.tick(0)
	x.crash()
	if _, n := x.Head("acme"); n != 5 {
		t.Errorf("acme has %d entries", n)
	}
}

// laid puts entries into a log's file, chained, and synced.
func laid(t *testing.T, d *disk.Disk, name string, l ...audit.Entry) {
	t.Helper()
	log, e := wal.Open(d, name)
	chain := audit.New()
	for _, x := range l {
		b, why := chain.Add(x)
		if e != api.OK || why != api.OK || log.Append(b) != api.OK {
			t.Fatalf("laying %v: %d, %d", x, e, why)
		}
	}
	log.Sync()
}

func entry(t *testing.T, tenant, what string, r frame.Request) audit.Entry {
	return audit.Entry{Tenant: tenant, What: what, Body: bytesOf(t, r)}
}

// What logs have is done again; what can not be done changes nothing, and stays in the log.
func TestDoneAgain(t *testing.T) {
	d := disk.New()
	junk := audit.Entry{Tenant: "acme", What: "put", Body: []byte{1}}
	laid(t, d, "adm",
		junk,
		entry(t, "acme", "policy", rules(1, "allow logs to globex")),
		entry(t, "acme", "put", put(2, line(1, "adm"))),
		entry(t, "acme", "retain", retain(3, 9)),
		entry(t, "acme", "stats", stats(4)),
		entry(t, "zed", "grant", give(5, "grant 9 from zed to acme any until 9 depth 0")),
		entry(t, "acme", "grant", give(6, "grant 1 from acme to globex any until 9 depth 0")),
		entry(t, "acme", "grant", give(7, "grant 1 from acme to globex logs until 9 depth 0")),
		entry(t, "acme", "grant", give(8, "grant 2 from globex to acme logs until 9 depth 0")),
		entry(t, "acme", "grant", give(9, "grant 2 from acme to zed logs until 9 depth 0")),
		entry(t, "globex", "revoke", revoke(10, 1)),
		entry(t, "acme", "policy", rules(11, "x")),
		// What it is called plays no part.
		entry(t, "globex", "anything", give(12, "grant 3 from globex to acme any until 9 depth 0")),
	)
	laid(t, d, "t0",
		entry(t, "acme", "put", put(1, point("up", 5, 1), point("up", 6, 1))),
		entry(t, "acme", "put", put(2, point("up", 7, 1), point("up", 7, 1))),
		junk,
		entry(t, "acme", "policy", rules(3, "")),
		entry(t, "acme", "query", lines(4, "{}")),
		entry(t, "zed", "put", put(5, line(1, "zed"))),
		entry(t, "acme", "retain", retain(6, 6)),
		entry(t, "acme", "put", frame.Request{Op: frame.Put, Kind: api.KLine, Body: []byte{0x0a}}),
		entry(t, "acme", "put", put(7, point("up", 8, 1))),
	)
	b := made(t, plain(slots.Fair, "acme", "globex"), d)
	var got []string
	for _, r := range b.Records("acme") {
		got = append(got, r.Name+strconv.FormatInt(r.T, 10))
	}
	is(t, "acme", strings.Join(got, " "), "up6 up8")
	got = nil
	for _, x := range b.Grants() {
		got = append(got, strconv.FormatInt(x.Id, 10)+x.From)
	}
	is(t, "grants", strings.Join(got, " "), "1acme 3globex")
	if len(b.Rules("acme")) != 1 || len(b.Rules("globex")) != 0 || b.Pending() != 0 {
		t.Errorf("Rules = %v", b.Rules("acme"))
	}
	_, adm := b.Head("")
	_, own := b.Head("acme")
	if adm != 13 || own != 9 {
		t.Errorf("%d and %d entries", adm, own)
	}
	if s := b.body(ann, stats(1)); !strings.HasPrefix(s, "points 2 lines 0 spans 0 version 4\n") {
		t.Errorf("stats: %s", s)
	}
	was := stateWithoutSlot(b)
	b.crash()
	is(t, "behind a crash", stateWithoutSlot(b), was)
}

// An entry is done for the tenant that it names, in whichever log it stands.
func TestEntryOfAnother(t *testing.T) {
	d := disk.New()
	laid(t, d, "t0", entry(t, "globex", "put", put(1, line(1, "x"))))
	b := made(t, plain(slots.Fair, "acme", "globex"), d)
	if len(b.Records("acme")) != 0 || texts(b, "globex") != "x" {
		t.Errorf("Records = %v, %v", b.Records("acme"), b.Records("globex"))
	}
}

// A room that has become smaller: what does not fit is not done again.
func TestLessRoom(t *testing.T) {
	b := fresh(t, "acme")
	b.do(ann, put(1, line(1, "a"), line(2, "b")))
	b.do(ann, put(2, line(3, "c"), line(4, "d")))
	b.do(ann, put(3, line(5, "e")))
	c := plain(slots.Fair, "acme")
	c.Room = 3
	is(t, "with room for three", texts(made(t, c, b.d), "acme"), "abe")
}

// All logs are synced by a tick, and by nothing else.
func TestTickSyncs(t *testing.T) {
	b := fresh(t, "acme", "globex")
	b.do(ann, put(1, line(1, "a")))
	b.do(bob, put(1, line(1, "a")))
	b.do(boss, rules(2, ""))
	if b.d.Pending() != 3 || b.d.Syncs() != 0 {
		t.Errorf("%d writes are not safe, %d syncs", b.d.Pending(), b.d.Syncs())
	}
	if _, e := b.Step(api.Event{Kind: api.EvTick, N: -1}); e != api.ErrArg || b.d.Pending() != 3 || b.Pending() != 3 {
		t.Errorf("a tick that is refused = %d", e)
	}
	b.tick(0)
	if b.d.Pending() != 0 || b.d.Syncs() != 3 {
		t.Errorf("%d writes are not safe, %d syncs", b.d.Pending(), b.d.Syncs())
	}
}
