package gate

import (
	"math"
	"slices"
	"strconv"
	"strings"
	"testing"

	"belfry/api"
	"belfry/attr"
	"belfry/audit"
	"belfry/disk"
	"belfry/frame"
	"belfry/otlp"
	"belfry/quota"
	"belfry/slots"
	"belfry/wal"
)

// plain is a configuration of tenants that may ask as often as they like.
func plain(mode int, names ...string) Config {
	c := Config{Mode: mode, Budget: 1000, Room: 100}
	for _, name := range names {
		c.Tenants = append(c.Tenants, Tenant{Name: name, Weight: 1, Rate: quota.MaxRate, Burst: quota.MaxBurst})
	}
	return c
}

// bench is a gateway at work, and its disk.
type bench struct {
	*Gate
	t *testing.T
	d *disk.Disk
}

func made(t *testing.T, c Config, d *disk.Disk) *bench {
	t.Helper()
	g, e := New(c, d)
	if e != api.OK {
		t.Fatalf("New = %d", e)
	}
	return &bench{g, t, d}
}

func fresh(t *testing.T, names ...string) *bench {
	t.Helper()
	return made(t, plain(slots.Fair, names...), disk.New())
}

// tell is replies as text: whose, the request's number, the slot, the error, and the body in quotes, a line each.
func tell(l []Reply) string {
	var s strings.Builder
	for _, r := range l {
		o := r.Out
		s.WriteString(r.Tenant + " " + strconv.FormatInt(o.Id, 10) + " @" + strconv.FormatInt(o.Slot, 10) + " " + strconv.Itoa(int(o.Why)) + " " + strconv.Quote(o.Body) + "\n")
	}
	return s.String()
}

func (b *bench) step(e api.Event) []Reply {
	b.t.Helper()
	l, why := b.Step(e)
	if why != api.OK {
		b.t.Fatalf("Step(%v) = %d", e, why)
	}
	return l
}

// bytesOf is a request's bytes.
func bytesOf(t *testing.T, r frame.Request) []byte {
	t.Helper()
	x, e := frame.Write(r)
	if e != api.OK {
		t.Fatalf("Write(%v) = %d", r, e)
	}
	return x
}

// come lets a request come.
func (b *bench) come(peer string, r frame.Request) []Reply {
	b.t.Helper()
	return b.step(api.Event{Kind: api.EvRequest, Peer: peer, B: bytesOf(b.t, r)})
}

func (b *bench) slots(n int) []Reply {
	b.t.Helper()
	var l []Reply
	for range n {
		l = append(l, b.step(api.Event{Kind: api.EvSlot})...)
	}
	return l
}

func (b *bench) tick(n int64) []Reply {
	b.t.Helper()
	return b.step(api.Event{Kind: api.EvTick, N: n})
}

func (b *bench) crash(l ...api.Keep) {
	b.t.Helper()
	if out := b.step(api.Event{Kind: api.EvCrash, Keeps: l}); len(out) != 0 {
		b.t.Errorf("a crash answers %v", out)
	}
}

// ask lets a request come, and slots pass until none waits.
func (b *bench) ask(peer string, r frame.Request) []Reply {
	b.t.Helper()
	l := b.come(peer, r)
	for range 100 {
		l = append(l, b.slots(1)...)
	}
	return l
}

// body is the text of the one answer to a request, which must be OK.
func (b *bench) body(peer string, r frame.Request) string {
	b.t.Helper()
	l := b.ask(peer, r)
	if len(l) != 1 || l[0].Out.Why != api.OK {
		b.t.Fatalf("the answers to %v are %v", r, l)
	}
	return l[0].Out.Body
}

// why is the error of the one answer to a request, whose text must be empty.
func (b *bench) why(peer string, r frame.Request) api.Errno {
	b.t.Helper()
	l := b.ask(peer, r)
	if len(l) != 1 || l[0].Out.Why == api.OK || l[0].Out.Body != "" {
		b.t.Fatalf("the answers to %v are %v", r, l)
	}
	return l[0].Out.Why
}

// do lets an operation be done, which must not be refused.
func (b *bench) do(peer string, r frame.Request) {
	b.t.Helper()
	if l := b.ask(peer, r); len(l) != 0 {
		b.t.Fatalf("the answers to %v are %v", r, l)
	}
}

func is(t *testing.T, what, got, want string) {
	t.Helper()
	if got != want {
		t.Errorf("%s:\n%s\nwant:\n%s", what, got, want)
	}
}

// set is a set of attributes: keys and values in turn, in order of the keys.
func set(l ...string) []api.Attr {
	var out []api.Attr
	for pair := range slices.Chunk(l, 2) {
		out = append(out, api.Attr{Key: pair[0], Value: pair[1]})
	}
	return out
}

func line(at int64, text string, attrs ...string) api.Record {
	return api.Record{Kind: api.KLine, T: at, Text: text, Attrs: set(attrs...)}
}

func point(name string, at, v int64, attrs ...string) api.Record {
	return api.Record{Kind: api.KPoint, Name: name, T: at, V: v * api.One, Attrs: set(attrs...)}
}

func span(name string, from, to int64, id, parent byte, attrs ...string) api.Record {
	return api.Record{Kind: api.KSpan, Name: name, T: from, To: to, Trace: [16]byte{1}, Id: [8]byte{id}, Parent: [8]byte{parent}, Attrs: set(attrs...)}
}

func put(id int64, l ...api.Record) frame.Request {
	kind := api.KLine
	if len(l) > 0 {
		kind = l[0].Kind
	}
	b, e := otlp.Encode(kind, l...)
	if e != api.OK {
		panic(e)
	}
	return frame.Request{Id: id, Op: frame.Put, Kind: kind, Body: b}
}

func lines(id int64, text string) frame.Request {
	return frame.Request{Id: id, Op: frame.Query, Kind: api.KLine, Text: text, To: api.MaxTime}
}

func spans(id int64, text string) frame.Request {
	return frame.Request{Id: id, Op: frame.Query, Kind: api.KSpan, Text: text, To: api.MaxTime}
}

func metrics(id int64, text string, at int64) frame.Request {
	return frame.Request{Id: id, Op: frame.Query, Kind: api.KPoint, Text: text, At: at}
}

func trace(id int64) frame.Request {
	return frame.Request{Id: id, Op: frame.Trace, Body: append([]byte{1}, make([]byte, 15)...)}
}

func stats(id int64) frame.Request {
	return frame.Request{Id: id, Op: frame.Stats}
}

func rules(id int64, text string) frame.Request {
	return frame.Request{Id: id, Op: frame.Policy, Text: text}
}

func give(id int64, text string) frame.Request {
	return frame.Request{Id: id, Op: frame.Grant, Text: text}
}

func revoke(id, grant int64) frame.Request {
	return frame.Request{Id: id, Op: frame.Revoke, At: grant}
}

func retain(id, at int64) frame.Request {
	return frame.Request{Id: id, Op: frame.Retain, At: at}
}

const (
	ann   = "belfry:acme/ann"
	boss  = "belfry:acme/ann#admin"
	bob   = "belfry:globex/bob"
	chief = "belfry:globex/bob#admin"
	eve   = "belfry:initech/eve"
	lord  = "belfry:initech/eve#admin"
)

// The chapter's example, and the first two of the whole.
func TestExample(t *testing.T) {
	b := fresh(t, "acme")
	is(t, "a Put comes", tell(b.come(ann, put(1, line(5, "hi")))), "")
	is(t, "a slot", tell(b.slots(1)), "")
	if len(b.Records("acme")) != 1 || b.Pending() != 1 || b.Slot() != 1 {
		t.Errorf("Records = %v, Pending = %d, Slot = %d", b.Records("acme"), b.Pending(), b.Slot())
	}
	is(t, "a tick", tell(b.tick(1)), "acme 1 @0 0 \"\"\n")
	q := lines(2, "{}")
	q.To = 9
	is(t, "a query comes", tell(b.come(ann, q)), "")
	is(t, "a slot", tell(b.slots(1)), "")
	is(t, "two slots", tell(b.slots(1)), "acme 2 @2 0 \"acme 5 0 \\\"hi\\\" {}\\n\"\n")
	if b.Pending() != 0 || b.Now() != 1 || b.Slot() != 3 {
		t.Errorf("Pending = %d, Now = %d, Slot = %d", b.Pending(), b.Now(), b.Slot())
	}
}

// Example 3 of the whole: by a grant, until its time is over.
func TestExampleGrant(t *testing.T) {
	b := fresh(t, "acme", "globex")
	b.do(ann, put(1, line(5, "hi")))
	is(t, "without a grant", b.body(bob, lines(2, "{}")), "")
	b.do(boss, give(3, "grant 1 from acme to globex logs until 100 depth 0"))
	is(t, "with it", b.body(bob, lines(4, "{}")), "acme 5 0 \"hi\" {}\n")
	b.tick(99)
	is(t, "at 99", b.body(bob, lines(5, "{}")), "acme 5 0 \"hi\" {}\n")
	b.tick(100)
	is(t, "at 100", b.body(bob, lines(6, "{}")), "")
}

// Example 4 of the whole: by a policy that hides a key.
func TestExamplePolicy(t *testing.T) {
	b := fresh(t, "acme", "globex")
	b.do(ann, put(1, line(5, "a", "env", "prod", "user", "ann"), line(6, "b", "env", "test"), line(7, "c", "env", "prod")))
	b.do(boss, rules(2, `allow logs to globex where {env="prod"} hide user`))
	is(t, "globex", b.body(bob, lines(3, "{}")), "acme 7 0 \"c\" {env=\"prod\"}\nacme 5 0 \"a\" {env=\"prod\"}\n")
	is(t, "globex names what is hidden", b.body(bob, lines(4, `{user!="x"}`)), "")
	is(t, "globex tests what is hidden", b.body(bob, lines(5, `{} | user!="x"`)), "")
	is(t, "acme", b.body(ann, lines(6, `{user="ann"}`)), "acme 5 0 \"a\" {env=\"prod\", user=\"ann\"}\n")
}

// Example 5 of the whole.
func TestExampleMetrics(t *testing.T) {
	b := fresh(t, "acme")
	b.do(ann, put(1, point("up", 5, 2, "a", "1"), point("up", 6, 4, "a", "2")))
	is(t, "sum(up)", b.body(ann, metrics(2, "sum(up)", 7)), "{} 6\n")
	is(t, "up", b.body(ann, metrics(3, "up", 5)), "{a=\"1\", tenant=\"acme\"} 2\n")
}

// Example 6 of the whole.
func TestExampleRefused(t *testing.T) {
	b := fresh(t, "acme")
	is(t, "a peer", tell(b.step(api.Event{Kind: api.EvRequest, Peer: "belfry:acme", B: bytesOf(t, stats(1))})), " 0 @0 100 \"\"\n")
	is(t, "10 09", tell(b.step(api.Event{Kind: api.EvRequest, Peer: ann, B: []byte{0x10, 9}})), "acme 0 @0 42 \"\"\n")
}

// Example 7 of the whole.
func TestExampleQuota(t *testing.T) {
	c := plain(slots.Fair, "acme")
	c.Tenants[0].Rate, c.Tenants[0].Burst = 0, 5*api.One
	b := made(t, c, disk.New())
	is(t, "two queries", tell(append(b.come(ann, lines(1, "{}")), b.come(ann, lines(2, "{}"))...)), "")
	is(t, "a third one", tell(b.come(ann, lines(3, "{}"))), "acme 3 @0 190 \"\"\n")
	b.tick(api.MaxTime)
	is(t, "a fourth one", tell(b.come(ann, lines(4, "{}"))), "acme 4 @0 190 \"\"\n")
	is(t, "what costs one", tell(b.come(ann, stats(5))), "")
	if b.Waiting("acme") != 3 {
		t.Errorf("Waiting = %d", b.Waiting("acme"))
	}
}

// Example 8 of the whole.
func TestExampleQueue(t *testing.T) {
	c := plain(slots.Fair, "acme")
	c.Tenants[0].Rate, c.Tenants[0].Burst = 0, 34*api.One
	b := made(t, c, disk.New())
	for i := range int64(16) {
		is(t, "a query", tell(b.come(ann, lines(i, "{}"))), "")
	}
	for range 5 {
		is(t, "the last one", tell(b.come(ann, lines(17, "{}"))), "acme 17 @0 200 \"\"\n")
	}
	// 2 tokens are left: each one that was refused has had its own back.
	b.slots(2)
	is(t, "one more", tell(b.come(ann, lines(18, "{}"))), "")
	b.slots(2)
	is(t, "and another one", tell(b.come(ann, lines(19, "{}"))), "acme 19 @4 190 \"\"\n")
}

// Example 9 of the whole.
func TestExampleCrash(t *testing.T) {
	b := fresh(t, "acme")
	b.do(ann, put(1, line(5, "hi")))
	b.crash()
	if l := b.Records("acme"); len(l) != 0 || b.Pending() != 0 {
		t.Errorf("Records = %v, Pending = %d", l, b.Pending())
	}
	is(t, "a tick", tell(b.tick(1)), "")
	b.do(ann, put(2, line(6, "ho")))
	is(t, "a tick", tell(b.tick(2)), "acme 2 @100 0 \"\"\n")
	b.crash(api.Keep{Name: "t0.log", N: []int{1, 2, 3}})
	if l := b.Records("acme"); len(l) != 1 || l[0].Text != "ho" {
		t.Errorf("Records = %v", l)
	}
}

// Example 10 of the whole.
func TestExampleAudit(t *testing.T) {
	b := fresh(t, "acme")
	b.do(ann, put(1, line(5, "hi")))
	log := b.Log("acme")
	head, n := b.Head("acme")
	if e, at := audit.Verify(log, head); e != api.OK || at != 0 || n != 1 {
		t.Errorf("Verify = %d, %d, of %d entries", e, at, n)
	}
	for i := range log {
		for bit := range 8 {
			x := slices.Clone(log)
			x[i] ^= 1 << bit
			if e, _ := audit.Verify(x, head); e == api.OK {
				t.Fatalf("with the bit %d of %d turned it is accepted", bit, i)
			}
		}
	}
}

// P24.1: what New refuses, on its own, and in which order.
func TestNewFaults(t *testing.T) {
	many := plain(slots.Fair)
	for i := range 17 {
		many.Tenants = append(many.Tenants, Tenant{"t" + strconv.Itoa(i), 1, 0, 1})
	}
	with := func(l ...Tenant) Config {
		c := plain(slots.Fixed)
		c.Tenants = l
		return c
	}
	good := Tenant{"acme", 1, 0, 1}
	for _, c := range []struct {
		what string
		e    api.Errno
		c    Config
	}{
		{"the mode -1", api.ErrArg, Config{-1, []Tenant{good}, 1, 1}},
		{"the mode 2", api.ErrArg, Config{2, []Tenant{good}, 1, 1}},
		{"no budget", api.ErrArg, Config{0, []Tenant{good}, 0, 1}},
		{"a budget below 0", api.ErrArg, Config{0, []Tenant{good}, math.MinInt, 1}},
		{"a budget that is too great", api.ErrArg, Config{0, []Tenant{good}, api.MaxSteps + 1, 1}},
		{"no room", api.ErrArg, Config{0, []Tenant{good}, 1, 0}},
		{"room below 0", api.ErrArg, Config{0, []Tenant{good}, 1, -1}},
		{"too much room", api.ErrArg, Config{0, []Tenant{good}, 1, api.MaxStore + 1}},
		{"nothing", api.ErrArg, Config{}},
		{"no tenants", api.ErrNone, with()},
		{"no tenants, and a mode", api.ErrArg, Config{3, nil, 1, 1}},
		{"too many tenants", api.ErrFull, many},
		{"too many tenants, wrong ones", api.ErrFull, with(make([]Tenant, 17)...)},
		{"too many tenants, and a room", api.ErrArg, Config{0, make([]Tenant, 17), 1, 0}},
		{"an empty name", api.ErrIdent, with(Tenant{"", 1, 0, 1})},
		{"a wrong name", api.ErrIdent, with(good, Tenant{"Globex", 0, -1, 0})},
		{"a name of 33 bytes", api.ErrIdent, with(Tenant{strings.Repeat("a", 33), 1, 0, 1})},
		{"the weight 0", api.ErrArg, with(Tenant{"acme", 0, 0, 1})},
		{"the weight 17", api.ErrArg, with(Tenant{"acme", 17, 0, 1})},
		{"a rate below 0", api.ErrArg, with(Tenant{"acme", 1, -1, 1})},
		{"a rate that is too great", api.ErrArg, with(Tenant{"acme", 1, quota.MaxRate + 1, 1})},
		{"the burst 0", api.ErrArg, with(Tenant{"acme", 1, 0, 0})},
		{"a burst that is too great", api.ErrArg, with(Tenant{"acme", 1, 0, quota.MaxBurst + 1})},
		{"the first one at fault", api.ErrArg, with(Tenant{"z", 0, 0, 1}, Tenant{"A", 1, 0, 1})},
		{"the first one at fault, by its name", api.ErrIdent, with(Tenant{"Z", 0, 0, 1}, Tenant{"a", 0, 0, 1})},
		{"one twice", api.ErrTwice, with(good, Tenant{"globex", 1, 0, 1}, good)},
		{"one twice, with another weight", api.ErrTwice, with(good, Tenant{"acme", 2, 0, 1})},
		{"one twice, ahead of one at fault", api.ErrArg, with(good, good, Tenant{"globex", 0, 0, 1})},
	} {
		if g, e := New(c.c, disk.New()); g != nil || e != c.e {
			t.Errorf("%s: New = %v, %d, want %d", c.what, g, e, c.e)
		}
		if g, e := New(c.c, nil); g != nil || e != api.ErrNil {
			t.Errorf("%s: New without a disk = %v, %d", c.what, g, e)
		}
	}
}

// P24.1: the edges of what can be.
func TestNewEdges(t *testing.T) {
	var l []Tenant
	for i := range 16 {
		l = append(l, Tenant{strings.Repeat("a", 31) + string(rune('p'-i)), 16, quota.MaxRate, quota.MaxBurst})
	}
	for _, c := range []Config{
		{slots.Fair, l, api.MaxSteps, api.MaxStore},
		{slots.Fixed, l[:1], 1, 1},
		{slots.Fixed, []Tenant{{"a", 1, 0, 1}}, 1, 1},
	} {
		was := slices.Clone(c.Tenants)
		g, e := New(c, disk.New())
		if e != api.OK || g.Now() != 0 || g.Slot() != 0 || g.Pending() != 0 || !slices.Equal(c.Tenants, was) {
			t.Errorf("New(%v) = %v, %d", c, g, e)
		}
	}
	// Names are numbered in order, however they are handed in.
	b := made(t, plain(slots.Fair, "globex", "initech", "acme"), disk.New())
	b.do(bob, put(1, line(5, "hi")))
	if n, e := b.d.Len("t1.log"); e != api.OK || n == 0 {
		t.Errorf("t1.log has %d bytes, %d", n, e)
	}
	if _, e := b.d.Len("t0.log"); e != api.ErrNone {
		t.Errorf("t0.log: %d", e)
	}
}

// P24.1: a configuration that is written into later changes nothing.
func TestConfigIsNotKept(t *testing.T) {
	c := plain(slots.Fair, "acme", "globex")
	b := made(t, c, disk.New())
	c.Tenants[0].Name, c.Tenants[1] = "zed", Tenant{}
	is(t, "stats", tell(b.ask(ann, stats(1)))[:9], "acme 1 @0")
	if l := b.Owners("globex"); !slices.Equal(l, []string{"globex"}) {
		t.Errorf("Owners = %v", l)
	}
}

// frames are records as they stand in a log's file.
func frames(t *testing.T, l ...string) []byte {
	t.Helper()
	var out []byte
	for i, s := range l {
		f, e := wal.Frame(uint64(i+1), []byte(s))
		if e != api.OK {
			t.Fatalf("Frame = %d", e)
		}
		out = append(out, f...)
	}
	return out
}

// P24.1: logs that can not be opened, or are not accepted: the first one's error, adm ahead of the tenants'; the disk stays as it is.
func TestNewLogs(t *testing.T) {
	bad := func(d *disk.Disk, name string) { d.Append(name+".ckp", []byte("x")) }
	entry := func(at int64) string {
		x, _ := audit.New().Add(audit.Entry{Tenant: "acme", At: at, What: "put"})
		return string(x)
	}
	for _, c := range []struct {
		what string
		e    api.Errno
		lay  func(d *disk.Disk)
	}{
		{"a wrong checkpoint of adm", api.ErrSum, func(d *disk.Disk) { bad(d, "adm") }},
		{"a wrong checkpoint of t0", api.ErrSum, func(d *disk.Disk) { bad(d, "t0") }},
		{"a wrong checkpoint of t1", api.ErrSum, func(d *disk.Disk) { bad(d, "t1") }},
		{"a wrong checkpoint of t2", api.OK, func(d *disk.Disk) { bad(d, "t2") }},
		{"a record that is cut", api.ErrShort, func(d *disk.Disk) { d.Append("t0.log", frames(t, entry(1)[:9])) }},
		{"a record that is no entry", api.ErrForm, func(d *disk.Disk) { d.Append("adm.log", frames(t, "\x01x")) }},
		{"entries that are not chained", api.ErrChain, func(d *disk.Disk) { d.Append("t1.log", frames(t, entry(1), entry(2))) }},
		{"an entry in two records", api.OK, func(d *disk.Disk) { d.Append("t1.log", frames(t, entry(1)[:9], entry(1)[9:])) }},
		{"adm ahead of t0", api.ErrForm, func(d *disk.Disk) { bad(d, "t0"); d.Append("adm.log", frames(t, "\x01x")) }},
		{"t0 ahead of t1", api.ErrChain, func(d *disk.Disk) { bad(d, "t1"); d.Append("t0.log", frames(t, entry(1), entry(1))) }},
		{"a log ahead of what stands in it", api.ErrSum, func(d *disk.Disk) { bad(d, "t0"); d.Append("t0.log", frames(t, "\x01x")) }},
		{"torn bytes", api.OK, func(d *disk.Disk) { d.Append("adm.log", []byte("\x01\x07abc")) }},
		{"torn bytes, and then an error", api.ErrSum, func(d *disk.Disk) { d.Append("adm.log", []byte("\x01\x07abc")); bad(d, "t1") }},
		{"a checkpoint that was not ready, and then an error", api.ErrSum, func(d *disk.Disk) { d.Append("adm.ckp.new", []byte("x")); bad(d, "t1") }},
	} {
		d := disk.New()
		c.lay(d)
		was := d.Copy()
		g, e := New(plain(slots.Fair, "acme", "globex"), d)
		if e != c.e || (g == nil) == (e == api.OK) {
			t.Errorf("%s: New = %v, %d, want %d", c.what, g, e, c.e)
		}
		if e != api.OK && !d.Same(was) {
			t.Errorf("%s: New has changed the disk", c.what)
		}
	}
}

// P24.1: a nil gateway, and one that New did not make.
func TestNil(t *testing.T) {
	for _, g := range []*Gate{nil, {}} {
		for _, kind := range []int{api.EvRequest, api.EvTick, api.EvSlot, api.EvCrash, 0, 5} {
			if l, e := g.Step(api.Event{Kind: kind}); l != nil || e != api.ErrNil {
				t.Errorf("Step = %v, %d", l, e)
			}
		}
		for _, n := range []int{0, 1, api.MaxScript + 1} {
			if l, e, at := g.Run(make([]api.Event, n)); l != nil || e != api.ErrNil || at != 0 {
				t.Errorf("Run = %v, %d, %d", l, e, at)
			}
		}
		head, n := g.Head("")
		if g.Now() != 0 || g.Slot() != 0 || g.Pending() != 0 || head != [32]byte{} || n != 0 || g.Grants() != nil {
			t.Error("a nil gateway has something")
		}
		for _, name := range []string{"", "acme"} {
			if g.Waiting(name) != 0 || g.Records(name) != nil || g.Rules(name) != nil || g.Log(name) != nil || g.Owners(name) != nil {
				t.Errorf("a nil gateway has something of %q", name)
			}
		}
	}
}

// P24.2: events that are none, ticks that can not be, and a script up to the first error.
func TestStepAndRun(t *testing.T) {
	b := fresh(t, "acme")
	for _, kind := range []int{0, 5, -1, math.MinInt, math.MaxInt} {
		if l, e := b.Step(api.Event{Kind: kind}); l != nil || e != api.ErrEvent {
			t.Errorf("Step(%d) = %v, %d", kind, l, e)
		}
	}
	b.tick(7)
	for _, n := range []int64{6, 0, -1, math.MinInt64, api.MaxTime + 1, math.MaxInt64} {
		if l, e := b.Step(api.Event{Kind: api.EvTick, N: n}); l != nil || e != api.ErrArg || b.Now() != 7 {
			t.Errorf("the tick %d = %v, %d, Now = %d", n, l, e, b.Now())
		}
	}
	b.tick(7)
	b.tick(api.MaxTime)
	request := api.Event{Kind: api.EvRequest, Peer: ann, B: bytesOf(t, put(1, line(5, "x")))}
	slot, bad := api.Event{Kind: api.EvSlot}, api.Event{Kind: api.EvRequest, Peer: "x"}
	tick := api.Event{Kind: api.EvTick, N: api.MaxTime}
	for _, c := range []struct {
		what string
		l    []api.Event
		out  string
		e    api.Errno
		at   int
	}{
		{"nothing", nil, "", api.OK, 0},
		{"all", []api.Event{request, slot, bad, tick}, " 0 @1 100 \"\"\nacme 1 @0 0 \"\"\n", api.OK, 0},
		{"an event at fault", []api.Event{bad, slot, {Kind: 9}, bad}, " 0 @1 100 \"\"\n", api.ErrEvent, 2},
		{"a tick at fault", []api.Event{{Kind: api.EvTick}, bad}, "", api.ErrArg, 0},
		{"one behind the other", []api.Event{slot, bad, {Kind: api.EvTick}, {Kind: 9}}, " 0 @3 100 \"\"\n", api.ErrArg, 2},
		{"as many as can be", slices.Repeat([]api.Event{slot}, api.MaxScript), "", api.OK, 0},
		{"one more", slices.Repeat([]api.Event{slot}, api.MaxScript+1), "", api.ErrSize, 0},
		{"one more, at fault", make([]api.Event, api.MaxScript+1), "", api.ErrSize, 0},
	} {
		if l, e, at := b.Run(c.l); tell(l) != c.out || e != c.e || at != c.at {
			t.Errorf("%s: Run = %q, %d, %d, want %q, %d, %d", c.what, tell(l), e, at, c.out, c.e, c.at)
		}
	}
	if b.Slot() != 3+api.MaxScript {
		t.Errorf("Slot = %d", b.Slot())
	}
}

// P24.2: a log that is not accepted behind a crash is told by that step, and by each one behind it; nothing is done then.
func TestBroken(t *testing.T) {
	for _, c := range []struct {
		name string
		e    api.Errno
		lay  func(d *disk.Disk)
	}{
		{"a checkpoint", api.ErrSum, func(d *disk.Disk) { d.Append("t1.ckp", []byte("x")); d.Sync("t1.ckp") }},
		{"a record", api.ErrForm, func(d *disk.Disk) {
			f, _ := wal.Frame(2, []byte("\x01x"))
			d.Append("t0.log", f)
			d.Sync("t0.log")
		}},
	} {
		b := fresh(t, "acme", "globex")
		b.do(ann, put(1, line(5, "hi")))
		b.tick(3)
		b.come(ann, stats(2))
		c.lay(b.d)
		if l, e := b.Step(api.Event{Kind: api.EvCrash}); l != nil || e != c.e {
			t.Errorf("%s: Step = %v, %d, want %d", c.name, l, e, c.e)
		}
		was := b.d.Copy()
		slot := b.Slot()
		for _, e := range []api.Event{{Kind: api.EvSlot}, {Kind: api.EvTick, N: 9}, {Kind: api.EvTick, N: -1}, {Kind: api.EvCrash}, {Kind: api.EvRequest, Peer: "x"}} {
			if l, why := b.Step(e); l != nil || why != c.e {
				t.Errorf("%s: Step(%v) = %v, %d, want %d", c.name, e, l, why, c.e)
			}
		}
		if _, e := b.Step(api.Event{Kind: 9}); e != api.ErrEvent {
			t.Errorf("an event that is none = %d", e)
		}
		if l, e, at := b.Run([]api.Event{{Kind: api.EvSlot}}); l != nil || e != c.e || at != 0 {
			t.Errorf("%s: Run = %v, %d, %d", c.name, l, e, at)
		}
		if b.Now() != 3 || b.Slot() != slot || b.Waiting("acme") != 0 || b.Pending() != 0 || !b.d.Same(was) {
			t.Errorf("%s: Now = %d, Slot = %d, Waiting = %d", c.name, b.Now(), b.Slot(), b.Waiting("acme"))
		}
		for _, name := range []string{"", "acme", "globex"} {
			if head, n := b.Head(name); n != 0 || head != audit.New().Head() || len(b.Log(name)) != 0 {
				t.Errorf("%s: Head(%q) = %x, %d", c.name, name, head, n)
			}
		}
	}
}

// P24.3: what is told of tenants that there are, and of others.
func TestTold(t *testing.T) {
	b := fresh(t, "acme", "globex", "initech")
	b.do(ann, put(1, line(9, "b"), line(5, "a")))
	b.do(boss, rules(2, "allow logs to globex where {a=\"1\"} hide k"))
	b.do(chief, give(3, "grant 7 from globex to acme metrics until 50 depth 1"))
	b.do(boss, give(4, "grant 2 from acme to initech any until 60 depth 1"))
	b.come(ann, stats(5))
	b.come(ann, stats(6))
	if b.Waiting("acme") != 2 || b.Waiting("globex") != 0 || b.Waiting("zed") != 0 || b.Waiting("") != 0 || b.Pending() != 4 {
		t.Errorf("Waiting = %d, Pending = %d", b.Waiting("acme"), b.Pending())
	}
	if l := b.Records("acme"); len(l) != 2 || l[0].Text != "b" || l[1].Text != "a" {
		t.Errorf("Records = %v", l)
	}
	if l := b.Rules("acme"); len(l) != 1 || l[0].To != "globex" || l[0].Scope[0].Key != "a" || l[0].Hidden[0] != "k" {
		t.Errorf("Rules = %v", l)
	}
	if l := b.Grants(); len(l) != 2 || l[0].Id != 7 || l[1].Id != 2 {
		t.Errorf("Grants = %v", l)
	}
	for name, n := range map[string]int64{"": 3, "acme": 1, "globex": 0, "initech": 0} {
		head, m := b.Head(name)
		if e, at := audit.Verify(b.Log(name), head); e != api.OK || at != 0 || n != m {
			t.Errorf("Head(%q) = %x, %d, Verify = %d, %d", name, head, m, e, at)
		}
	}
	for _, name := range []string{"zed", "Acme", "acme "} {
		if head, n := b.Head(name); head != [32]byte{} || n != 0 || b.Log(name) != nil || b.Records(name) != nil || b.Rules(name) != nil || b.Owners(name) != nil {
			t.Errorf("there is something of %q", name)
		}
	}
	if b.Records("") != nil || b.Rules("") != nil || b.Owners("") != nil {
		t.Error("there is something of the empty name")
	}
	owners := func(want map[string]string) {
		t.Helper()
		for name, l := range want {
			is(t, "Owners of "+name, strings.Join(b.Owners(name), " "), l)
		}
	}
	owners(map[string]string{"acme": "acme globex", "globex": "acme globex", "initech": "acme initech"})
	b.tick(50)
	owners(map[string]string{"acme": "acme", "globex": "acme globex", "initech": "acme initech"})
	b.tick(60)
	owners(map[string]string{"acme": "acme", "globex": "acme globex", "initech": "initech"})
	b.slots(2)
	b.do(boss, rules(8, "allow logs to * where {a=\"1\"}\ndeny any to globex"))
	owners(map[string]string{"acme": "acme", "globex": "globex", "initech": "acme initech"})
	if len(b.Grants()) != 2 {
		t.Errorf("Grants = %v", b.Grants())
	}
}

// What is told is new memory.
func TestMemory(t *testing.T) {
	b := fresh(t, "acme", "globex")
	request := put(1, line(5, "a", "k", "v"))
	raw := bytesOf(t, request)
	b.step(api.Event{Kind: api.EvRequest, Peer: ann, B: raw})
	clear(raw)
	b.slots(1)
	b.do(boss, rules(2, "allow logs to globex where {a=\"1\"} hide k"))
	b.do(boss, give(3, `grant 1 from acme to globex any until 60 depth 1 where {a="1"}`))
	state := stateOf(b.Gate)
	b.Records("acme")[0].Attrs[0].Value = "x"
	b.Records("acme")[0] = api.Record{}
	l := b.Rules("acme")
	l[0].Scope[0].Key, l[0].Hidden[0] = "x", "x"
	l[0] = api.Rule{}
	b.Grants()[0].Scope[0].Key = "x"
	clear(b.Log("acme"))
	clear(b.Log(""))
	b.Owners("globex")[0] = "x"
	is(t, "what is told", stateOf(b.Gate), state)
	// An answer that was handed out is not written over by later ones.
	out := b.tick(1)
	b.do(boss, rules(4, ""))
	was := tell(out)
	b.tick(2)
	_ = append(out[:1], Reply{})
	is(t, "what went out", tell(out[:1]), was[:strings.Index(was, "\n")+1])
}

// teller is what tells all that there is to see of a gateway.
type teller interface {
	Now() int64
	Slot() int64
	Pending() int
	Waiting(tenant string) int
	Records(tenant string) []api.Record
	Rules(tenant string) []api.Rule
	Grants() []api.Grant
	Log(tenant string) []byte
	Head(tenant string) ([32]byte, int64)
	Owners(tenant string) []string
}

// stateOf is all that a gateway tells.
func stateOf(g *Gate) string {
	var names []string
	for _, t := range g.tenants {
		names = append(names, t.Name)
	}
	return told(g, names)
}

// told is all that is told of some tenants.
func told(g teller, names []string) string {
	var s strings.Builder
	word := func(l ...any) {
		for _, x := range l {
			switch x := x.(type) {
			case string:
				s.WriteString(strconv.Quote(x))
			case int:
				s.WriteString(strconv.Itoa(x))
			case int64:
				s.WriteString(strconv.FormatInt(x, 10))
			}
			s.WriteString(" ")
		}
	}
	word(g.Now(), g.Slot(), g.Pending())
	for _, name := range append([]string{""}, names...) {
		head, n := g.Head(name)
		word("\n", name, g.Waiting(name), string(g.Log(name)), string(head[:]), n)
		for _, r := range g.Records(name) {
			b, _ := otlp.Pack(r)
			word(string(b))
		}
		for _, r := range g.Rules(name) {
			word(strconv.FormatBool(r.Deny), r.Kind, r.To, attr.MatchText(r.Scope), strings.Join(r.Hidden, ","))
		}
		word(strings.Join(g.Owners(name), ","))
	}
	for _, x := range g.Grants() {
		word("\n", x.Id, x.Parent, x.From, x.To, x.Kind, x.Until, x.Depth, attr.MatchText(x.Scope))
	}
	return s.String()
}
