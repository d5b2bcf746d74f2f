package gate

import (
	"strconv"
	"strings"
	"testing"

	"belfry/api"
	"belfry/audit"
	"belfry/disk"
	"belfry/frame"
	"belfry/quota"
	"belfry/slots"
)

// refused holds the answer to bytes that are refused as they come to what it should be; nothing that is told changes.
func refused(t *testing.T, b *bench, what, peer string, x []byte, tenant string, id int64, why api.Errno) {
	t.Helper()
	was, files := stateOf(b.Gate), b.d.Copy()
	want := tell([]Reply{{tenant, api.Out{Id: id, Slot: b.Slot(), Why: why}}})
	is(t, what, tell(b.step(api.Event{Kind: api.EvRequest, Peer: peer, B: x})), want)
	if stateOf(b.Gate) != was || !b.d.Same(files) {
		t.Errorf("%s: something has changed", what)
	}
}

// P24.4, and the order in which a request is refused as it comes: who asks, its tenant, its bytes, an administrator's, and then what it asks.
func TestRefusedAsItComes(t *testing.T) {
	b := fresh(t, "acme", "globex")
	b.do(chief, give(1, "grant 1 from globex to acme logs until 100 depth 1"))
	b.slots(3)
	junk := []byte{0x10}
	for _, c := range []struct {
		what, peer string
		x          []byte
		tenant     string
		id         int64
		e          api.Errno
	}{
		{"no peer", "", junk, "", 0, api.ErrIdent},
		{"a tenant alone", "belfry:acme", junk, "", 0, api.ErrIdent},
		{"a wrong tenant", "belfry:Acme/ann", junk, "", 0, api.ErrIdent},
		{"something behind", boss + "x", bytesOf(t, stats(9)), "", 0, api.ErrIdent},
		{"a tenant that is none", "belfry:zed/ann#admin", junk, "zed", 0, api.ErrNone},
		{"bytes that are short", ann, junk, "acme", 0, api.ErrShort},
		{"bytes that are none", boss, []byte{0}, "acme", 0, api.ErrWire},
		{"an operation that is none", ann, []byte{8, 7, 0x10, 9}, "acme", 0, api.ErrOp},
		{"no bytes", ann, nil, "acme", 0, api.ErrOp},
		{"out of order", ann, []byte{0x10, 4, 8, 7}, "acme", 0, api.ErrForm},
		{"too many bytes", ann, make([]byte, 2*api.MaxText+1), "acme", 0, api.ErrSize},
		{"a policy of a user", ann, bytesOf(t, rules(2, "x")), "acme", 2, api.ErrDenied},
		{"a grant of a user", ann, bytesOf(t, give(3, "x")), "acme", 3, api.ErrDenied},
		{"a revoke of a user", ann, bytesOf(t, revoke(4, 9)), "acme", 4, api.ErrDenied},
		{"a retain of a user", ann, bytesOf(t, retain(5, 9)), "acme", 5, api.ErrDenied},
		{"a policy", boss, bytesOf(t, rules(6, "x")), "acme", 6, api.ErrRule},
		{"a policy's key", boss, bytesOf(t, rules(6, "allow any to * hide 1")), "acme", 6, api.ErrKey},
		{"a grant", boss, bytesOf(t, give(7, "x")), "acme", 7, api.ErrGrant},
		{"a grant of another tenant, to none", boss, bytesOf(t, give(8, "grant 1 from globex to zed any until 9 depth 0")), "acme", 8, api.ErrDenied},
		{"a grant to none, with a number that there is", boss, bytesOf(t, give(9, "grant 1 from acme to zed any until 9 depth 0")), "acme", 9, api.ErrNone},
		{"a grant that there is", boss, bytesOf(t, give(10, "grant 1 from acme to globex any until 9 depth 0")), "acme", 10, api.ErrTwice},
		{"a grant under none", boss, bytesOf(t, give(11, "grant 2 from acme to globex any until 9 depth 0 under 5")), "acme", 11, api.ErrNone},
		{"a grant back to the owner", boss, bytesOf(t, give(12, "grant 2 from acme to globex logs until 9 depth 0 under 1")), "acme", 12, api.ErrDenied},
		{"a revoke of none", boss, bytesOf(t, revoke(13, 2)), "acme", 13, api.ErrNone},
		{"a revoke of another tenant's", boss, bytesOf(t, revoke(14, 1)), "acme", 14, api.ErrDenied},
		{"a message that is short", ann, bytesOf(t, frame.Request{Id: 15, Op: frame.Put, Kind: api.KLine, Body: []byte{0x0a}}), "acme", 15, api.ErrShort},
		{"a message that is none", ann, bytesOf(t, frame.Request{Id: 16, Op: frame.Put, Kind: api.KPoint, Body: []byte{8, 1}}), "acme", 16, api.ErrOtlp},
		{"a query of lines", ann, bytesOf(t, lines(17, "x")), "acme", 17, api.ErrQuery},
		{"a query of spans", ann, bytesOf(t, spans(18, "span")), "acme", 18, api.ErrQuery},
		{"a query of metrics", ann, bytesOf(t, metrics(19, "1.", 0)), "acme", 19, api.ErrToken},
	} {
		refused(t, b, c.what, c.peer, c.x, c.tenant, c.id, c.e)
	}
	// Nothing of all that took a token.
	want := "taken 1 refused 0 cost 1000000\n"
	if s := b.body(ann, stats(20)); !strings.Contains(s, want) {
		t.Errorf("stats: %s", s)
	}
}

// Behind what a request asks comes its quota, and then the queue: what is refused there has its tokens back, and counts.
func TestQuotaAndQueue(t *testing.T) {
	c := plain(slots.Fixed, "acme", "globex")
	c.Tenants[0].Rate, c.Tenants[0].Burst = api.One, 20*api.One
	b := made(t, c, disk.New())
	for i := range int64(16) {
		b.come(ann, stats(i))
	}
	// Four tokens are left, and no room.
	refused(t, b, "the queue", ann, bytesOf(t, stats(20)), "acme", 20, api.ErrQueue)
	refused(t, b, "the quota ahead of the queue", ann, bytesOf(t, frame.Request{Id: 21, Op: frame.Put, Kind: api.KLine, Body: padded(5 * 4096)}), "acme", 21, api.ErrQuota)
	refused(t, b, "what is asked ahead of the quota", ann, bytesOf(t, frame.Request{Id: 22, Op: frame.Put, Kind: api.KLine, Body: make([]byte, 5*4096)}), "acme", 22, api.ErrWire)
	refused(t, b, "a query ahead of the queue", ann, bytesOf(t, lines(23, "x")), "acme", 23, api.ErrQuery)
	refused(t, b, "the queue", ann, bytesOf(t, lines(24, "{}")), "acme", 24, api.ErrQueue)
	// In fixed turns acme has each second slot.
	l := b.slots(2)
	is(t, "stats", l[0].Out.Body[strings.Index(l[0].Out.Body, "taken"):strings.Index(l[0].Out.Body, "hits")], "taken 18 refused 1 cost 19000000\n")
	is(t, "a retain costs one", tell(b.come(boss, retain(25, 1))), "")
	b.slots(2)
	// Three are left: those of the queue were given back.
	is(t, "what costs three", tell(b.come(ann, frame.Request{Id: 26, Op: frame.Put, Kind: api.KLine, Body: padded(2 * 4096)})), "")
	b.slots(2)
	is(t, "and nothing more", tell(b.come(ann, stats(27))), "acme 27 @6 190 \"\"\n")
	b.tick(999999999)
	is(t, "a nanosecond early", tell(b.come(ann, stats(28))), "acme 28 @6 190 \"\"\n")
	b.tick(1000000000)
	is(t, "a second later", tell(b.come(ann, stats(29))), "")
	// Another tenant has its own.
	is(t, "globex", tell(b.come(bob, stats(1))), "")
}

// padded is a right message of lines with so many bytes, of which there must not be one: fields of numbers that are not known say nothing.
func padded(n int) []byte {
	if n == 0 {
		return nil
	}
	for size := n; size >= 0; size-- {
		x := append([]byte{0x7a}, varint(size)...)
		if len(x)+size == n {
			return append(x, make([]byte, size)...)
		}
	}
	return append([]byte{0x78, 0}, padded(n-2)...)
}

func varint(n int) []byte {
	var b []byte
	for ; n >= 0x80; n >>= 7 {
		b = append(b, byte(n)|0x80)
	}
	return append(b, byte(n))
}

// What costs how much: a request is done by the last slot that it takes, those of one tenant one behind the other.
func TestCosts(t *testing.T) {
	b := fresh(t, "acme")
	for _, c := range []struct {
		peer string
		r    frame.Request
		cost int
	}{
		{ann, put(1), 1},
		{ann, frame.Request{Op: frame.Put, Kind: api.KLine, Body: padded(4095)}, 1},
		{ann, frame.Request{Op: frame.Put, Kind: api.KLine, Body: padded(4096)}, 2},
		{ann, frame.Request{Op: frame.Put, Kind: api.KLine, Body: padded(12288)}, 4},
		{ann, lines(1, "{}"), 2},
		{ann, metrics(1, "1", 0), 2},
		{ann, spans(1, "spans"), 2},
		{ann, trace(1), 2},
		{ann, stats(1), 1},
		{boss, retain(1, 5), 1},
	} {
		b.come(c.peer, c.r)
		for n := 1; n <= c.cost; n++ {
			if b.Waiting("acme") != 1 {
				t.Errorf("%v: done ahead of the slot %d", c.r.Op, n)
			}
			b.slots(1)
		}
		if b.Waiting("acme") != 0 {
			t.Errorf("%v: not done by %d slots", c.r.Op, c.cost)
		}
	}
	slot := b.Slot()
	b.come(ann, stats(1))
	b.come(ann, lines(2, "{}"))
	b.come(ann, stats(3))
	var got []string
	for _, r := range b.slots(9) {
		got = append(got, strconv.FormatInt(r.Out.Id, 10)+"@"+strconv.FormatInt(r.Out.Slot-slot, 10))
	}
	is(t, "answers", strings.Join(got, " "), "1@0 2@2 3@3")
}

// Of Policy, Grant and Revoke: they are done as they come, without a slot, and their answers wait for the next tick, in the order in which they were done.
func TestDoneAtOnce(t *testing.T) {
	c := plain(slots.Fair, "acme", "globex")
	c.Tenants[0].Rate, c.Tenants[0].Burst = 0, 1
	b := made(t, c, disk.New())
	is(t, "a policy", tell(b.come(boss, rules(1, "allow logs to globex"))), "")
	is(t, "its rule", b.Rules("acme")[0].To, "globex")
	is(t, "a put", tell(b.come(bob, put(9, line(5, "x")))), "")
	b.slots(3)
	is(t, "a grant", tell(b.come(boss, give(2, "grant 1 from acme to globex any until 9 depth 0"))), "")
	is(t, "another one", tell(b.come(chief, give(3, "grant 2 from globex to acme any until 9 depth 0"))), "")
	b.slots(1)
	is(t, "a revoke", tell(b.come(boss, revoke(4, 1))), "")
	is(t, "and the grant again", tell(b.come(boss, give(5, "grant 1 from acme to globex any until 9 depth 0"))), "")
	if b.Pending() != 6 || len(b.Grants()) != 2 || b.Grants()[1].Id != 1 {
		t.Errorf("Pending = %d, Grants = %v", b.Pending(), b.Grants())
	}
	is(t, "a tick", tell(b.tick(0)), "acme 1 @0 0 \"\"\nglobex 9 @0 0 \"\"\nacme 2 @3 0 \"\"\nglobex 3 @3 0 \"\"\nacme 4 @4 0 \"\"\nacme 5 @4 0 \"\"\n")
	is(t, "the next one", tell(b.tick(0)), "")
	entries, e, _ := audit.Entries(b.Log(""))
	var got []string
	for _, x := range entries {
		got = append(got, x.Tenant+" "+x.What)
	}
	is(t, "adm", strings.Join(got, ", "), "acme policy, acme grant, globex grant, acme revoke, acme grant")
	if e != api.OK || len(b.Log("acme")) != 0 {
		t.Errorf("Entries = %d, of acme %x", e, b.Log("acme"))
	}
	// A policy is the tenant's whole one.
	b.do(boss, rules(6, ""))
	if len(b.Rules("acme")) != 0 {
		t.Errorf("Rules = %v", b.Rules("acme"))
	}
	// With a grant go all that hang on it.
	b.do(boss, give(7, "grant 7 from acme to globex any until 9 depth 2"))
	b.do(boss, revoke(8, 7))
	if len(b.Grants()) != 2 {
		t.Errorf("Grants = %v", b.Grants())
	}
}

// Of Put: the first record that is refused tells the error, and none is put; it goes out at once.
func TestPut(t *testing.T) {
	c := plain(slots.Fair, "acme")
	c.Room = 4
	b := made(t, c, disk.New())
	b.do(ann, put(1, point("up", 5, 1), point("up", 6, 2)))
	b.do(ann, put(2, span("a", 1, 2, 1, 0)))
	for _, c := range []struct {
		what string
		e    api.Errno
		l    []api.Record
	}{
		{"an old point", api.ErrOld, []api.Record{point("up", 6, 3)}},
		{"an old point behind another one", api.ErrOld, []api.Record{point("up", 7, 3), point("up", 7, 4)}},
		{"a span that there is", api.ErrTwice, []api.Record{span("b", 1, 2, 2, 0), span("a", 1, 2, 1, 0)}},
		{"a span twice", api.ErrTwice, []api.Record{span("b", 1, 2, 2, 0), span("b", 1, 2, 2, 0)}},
		{"too many", api.ErrFull, []api.Record{line(1, "a"), line(2, "b")}},
		{"an old point that is too many", api.ErrOld, []api.Record{point("up", 7, 3), point("up", 6, 4), point("up", 9, 4)}},
	} {
		was := b.Records("acme")
		slot := b.Slot()
		want := tell([]Reply{{"acme", api.Out{Id: 9, Slot: slot, Why: c.e}}})
		is(t, c.what, tell(b.ask(ann, put(9, c.l...))), want)
		head, n := b.Head("acme")
		if len(b.Records("acme")) != len(was) || n != 2 || b.Pending() != 2 {
			t.Errorf("%s: Records = %v, Head = %x, %d", c.what, b.Records("acme"), head, n)
		}
	}
	if s := b.body(ann, stats(3)); !strings.HasPrefix(s, "points 2 lines 0 spans 1 version 3\n") {
		t.Errorf("stats: %s", s)
	}
	b.do(ann, put(4, line(1, "a")))
	b.do(ann, put(5))
	if s := b.body(ann, stats(6)); !strings.HasPrefix(s, "points 2 lines 1 spans 1 version 4\n") || !strings.Contains(s, "log 4 ") {
		t.Errorf("stats: %s", s)
	}
}

// Of Retain: what is over goes, and it is logged whether something goes or not.
func TestRetain(t *testing.T) {
	b := fresh(t, "acme", "globex")
	b.do(ann, put(1, line(5, "a"), line(7, "b")))
	b.do(bob, put(1, line(5, "a")))
	b.do(boss, retain(2, 6))
	b.do(boss, retain(3, 6))
	if l := b.Records("acme"); len(l) != 1 || l[0].Text != "b" || len(b.Records("globex")) != 1 {
		t.Errorf("Records = %v", l)
	}
	is(t, "a tick", tell(b.tick(0)), "acme 1 @0 0 \"\"\nglobex 1 @100 0 \"\"\nacme 2 @200 0 \"\"\nacme 3 @300 0 \"\"\n")
	if _, n := b.Head("acme"); n != 3 {
		t.Errorf("acme has %d entries", n)
	}
}

// An entry or a record that is refused: ErrFull, and nothing changes.
func TestLogIsFull(t *testing.T) {
	b := fresh(t, "acme")
	b.tick(9)
	// The longest body whose entry is still a record that can be.
	fits := func(n int) bool {
		chain := audit.New()
		record, e := chain.Add(audit.Entry{Tenant: "acme", At: 9, What: "put", Body: bytesOf(t, frame.Request{Id: 1, Op: frame.Put, Kind: api.KLine, Body: padded(n)})})
		return e == api.OK && len(record) <= api.MaxFrame
	}
	most := api.MaxText
	for ; !fits(most); most-- {
	}
	big := func(n int) frame.Request {
		return frame.Request{Id: 1, Op: frame.Put, Kind: api.KLine, Body: padded(n)}
	}
	for _, n := range []int{most + 1, api.MaxText - 8, api.MaxText} {
		was := stateWithoutSlot(b)
		if e := b.why(ann, big(n)); e != api.ErrFull || stateWithoutSlot(b) != was {
			t.Errorf("a Put of %d bytes = %d", n, e)
		}
	}
	b.do(ann, big(most))
	// 15 of them fill the file but for less than a sixteenth.
	for range 14 {
		b.do(ann, big(most))
	}
	was := stateWithoutSlot(b)
	if e := b.why(ann, big(most)); e != api.ErrFull || stateWithoutSlot(b) != was {
		t.Errorf("a Put into a full log = %d", e)
	}
	if l := b.tick(10); len(l) != 15 {
		t.Errorf("%d answers", len(l))
	}
	for size := 30000; size > 0; size /= 2 {
		for len(b.ask(ann, big(max(size, 2)))) == 0 {
		}
	}
	if e := b.why(boss, retain(1, 0)); e != api.ErrFull {
		t.Errorf("a Retain into a full log = %d", e)
	}
	head, n := b.Head("acme")
	if e, _ := audit.Verify(b.Log("acme"), head); e != api.OK {
		t.Errorf("Verify = %d, of %d entries", e, n)
	}
	// Nothing of that concerns the log of all.
	b.do(boss, rules(2, ""))
	b.tick(11)
	b.crash()
	if h, m := b.Head("acme"); h != head || m != n {
		t.Errorf("behind a crash there are %d entries of %d", m, n)
	}
}

// Of Policy the operation's error is told ahead of ErrFull, and ErrFull as it comes.
func TestAdmIsFull(t *testing.T) {
	b := fresh(t, "acme")
	refused(t, b, "a policy that is too long", boss, bytesOf(t, rules(3, strings.Repeat("#", api.MaxText))), "acme", 3, api.ErrFull)
	refused(t, b, "a wrong one that is too long", boss, bytesOf(t, rules(4, strings.Repeat("x", api.MaxText))), "acme", 4, api.ErrRule)
	if b.Pending() != 0 {
		t.Errorf("Pending = %d", b.Pending())
	}
	b.do(boss, rules(5, strings.Repeat("#", api.MaxText-200)))
}

// A disk without room for a file refuses an operation, too.
func TestDiskIsFull(t *testing.T) {
	d := disk.New()
	for i := range api.MaxFiles {
		d.Append("f"+strconv.Itoa(i), nil)
	}
	b := made(t, plain(slots.Fair, "acme", "globex"), d)
	if e := b.why(ann, put(1, line(5, "x"))); e != api.ErrFull || len(b.Records("acme")) != 0 {
		t.Errorf("a Put = %d, Records = %v", e, b.Records("acme"))
	}
	refused(t, b, "a policy", boss, bytesOf(t, rules(1, "allow any to *")), "acme", 1, api.ErrFull)
	refused(t, b, "a grant", boss, bytesOf(t, give(2, "grant 1 from acme to globex any until 9 depth 0")), "acme", 2, api.ErrFull)
	d.Remove("f0")
	b.do(boss, give(3, "grant 1 from acme to globex any until 9 depth 0"))
	b.tick(1)
	d.Remove("adm.log")
	d.Append("f0", nil)
	refused(t, b, "a revoke", boss, bytesOf(t, revoke(4, 1)), "acme", 4, api.ErrFull)
	if e := b.why(boss, retain(5, 9)); e != api.ErrFull {
		t.Errorf("a Retain = %d", e)
	}
}

// stateWithoutSlot is all that a gateway tells, but for the slot, which goes on whatever is asked.
func stateWithoutSlot(b *bench) string {
	s := stateOf(b.Gate)
	return strings.Replace(s, strconv.FormatInt(b.Slot(), 10)+" ", "", 1)
}

// P24.1, P21: modes, and weights.
func TestModes(t *testing.T) {
	c := plain(slots.Fair, "acme", "globex")
	c.Tenants[1].Weight = 2
	turn := func(c Config) string {
		b := made(t, c, disk.New())
		b.come(ann, lines(1, "{}"))
		b.come(bob, lines(2, "{}"))
		b.come(bob, lines(3, "{}"))
		var got []string
		for _, r := range b.slots(12) {
			got = append(got, r.Tenant+strconv.FormatInt(r.Out.Id, 10)+"@"+strconv.FormatInt(r.Out.Slot, 10))
		}
		return strings.Join(got, " ")
	}
	is(t, "by weights", turn(c), "acme1@1 globex2@3 globex3@5")
	c.Mode = slots.Fixed
	is(t, "in fixed turns", turn(c), "acme1@2 globex2@3 globex3@7")
}

// P8: by weights, each request is answered within (q + C) W / w + C N slots.
func TestInTurn(t *testing.T) {
	c := plain(slots.Fair, "acme", "globex", "initech")
	weights := map[string]int64{"acme": 1, "globex": 4, "initech": 3}
	for i, x := range c.Tenants {
		c.Tenants[i].Weight = int(weights[x.Name])
		c.Tenants[i].Burst = quota.MaxBurst
	}
	b := made(t, c, disk.New())
	const most, all, count = 17, 8, 3
	type key struct {
		tenant string
		id     int64
	}
	within := map[key]int64{}
	ahead := map[string]int64{}
	costs := map[key]int64{}
	answered := 0
	peers := map[string]string{"acme": ann, "globex": bob, "initech": eve}
	for i := range int64(400) {
		for j, name := range []string{"acme", "globex", "initech"} {
			r := lines(i, "{}")
			if (i+int64(j))%3 == 0 {
				r = frame.Request{Id: i, Op: frame.Put, Kind: api.KLine, Body: padded(2 + int(i*977)%65535)}
			}
			if l := b.come(peers[name], r); len(l) > 0 {
				continue
			}
			k := key{name, i}
			within[k] = b.Slot() + ((ahead[name]+most)*all+weights[name]-1)/weights[name] + most*count
			costs[k] = frame.Cost(r)
			ahead[name] += costs[k]
		}
		b.tick(i * 3000000000)
		for _, r := range append(b.slots(20), b.tick(i*3000000000)...) {
			k := key{r.Tenant, r.Out.Id}
			if r.Out.Slot >= within[k] {
				t.Errorf("%v is answered at %d, not within %d", k, r.Out.Slot, within[k])
			}
			ahead[r.Tenant] -= costs[k]
			delete(within, k)
			answered++
		}
	}
	if answered < 800 {
		t.Errorf("%d requests were answered", answered)
	}
}
