package gate

import (
	"math/big"
	"slices"
	"strconv"
	"strings"

	"belfry/api"
	"belfry/attr"
	"belfry/audit"
	"belfry/frame"
	"belfry/grant"
	"belfry/ident"
	"belfry/meval"
	"belfry/otlp"
	"belfry/policy"
	"belfry/rewrite"
	"belfry/search"
	"belfry/sha"
	"belfry/slots"
	"belfry/store"
	"belfry/wal"
)

// model is a gateway by the chapter's words: it keeps what was done as a list, and makes all that it tells of that list, anew each time.
type model struct {
	c       Config // tenants in order
	now     int64
	slot    int64
	done    map[string][]deedDone // by the logs' names
	jobs    map[string][]*modelJob
	served  *modelJob
	virtual int64            // the clock of slots by weights
	ends    map[string]int64 // of each tenant its last job's end
	buckets map[string]*modelBucket
	kept    map[string][]modelAnswer // the last one asked for at the end
	hits    map[string]int64
	misses  map[string]int64
	due     []Reply
}

// deedDone is an operation that was done.
type deedDone struct {
	tenant string
	at     int64
	r      frame.Request
	safe   bool
}

type modelJob struct {
	tenant string
	r      frame.Request
	left   int64
	start  int64
}

type modelAnswer struct {
	key, stamp, text string
}

// modelBucket holds parts: 10^9 of a millionth.
type modelBucket struct {
	rate, burst, upTo      int64
	holds                  *big.Int
	taken, refusals, costs int64
}

func newModel(c Config) *model {
	m := &model{c: c, done: map[string][]deedDone{}}
	m.c.Tenants = slices.Clone(c.Tenants)
	slices.SortFunc(m.c.Tenants, func(a, b Tenant) int { return strings.Compare(a.Name, b.Name) })
	m.clear()
	return m
}

func (m *model) clear() {
	m.jobs, m.served, m.virtual, m.ends = map[string][]*modelJob{}, nil, 0, map[string]int64{}
	m.buckets, m.kept = map[string]*modelBucket{}, map[string][]modelAnswer{}
	m.hits, m.misses, m.due = map[string]int64{}, map[string]int64{}, nil
	for _, t := range m.c.Tenants {
		m.buckets[t.Name] = &modelBucket{rate: t.Rate, burst: t.Burst, upTo: m.now, holds: parts(t.Burst)}
	}
}

func parts(n int64) *big.Int {
	return new(big.Int).Mul(big.NewInt(n), big.NewInt(1e9))
}

func (m *model) place(name string) int {
	return slices.IndexFunc(m.c.Tenants, func(t Tenant) bool { return t.Name == name })
}

// logOf is the log in which an operation stands; none of another request.
func (m *model) logOf(tenant string, op int) string {
	switch op {
	case frame.Put, frame.Retain:
		return "t" + strconv.Itoa(m.place(tenant))
	case frame.Policy, frame.Grant, frame.Revoke:
		return "adm"
	}
	return ""
}

// world is what all that was done has made.
type world struct {
	stores map[string]*store.Store
	rules  map[string][]api.Rule
	grants *grant.Set
}

func (m *model) world() *world {
	w := &world{map[string]*store.Store{}, map[string][]api.Rule{}, grant.New()}
	for _, t := range m.c.Tenants {
		w.stores[t.Name] = store.New(m.c.Room)
	}
	for _, l := range m.done {
		for _, x := range l {
			if e := w.do(m, x.tenant, x.r); e != api.OK {
				panic(e)
			}
		}
	}
	return w
}

// do does an operation; a world in which it is refused is good for nothing more.
func (w *world) do(m *model, tenant string, r frame.Request) api.Errno {
	switch r.Op {
	case frame.Put:
		l, e := otlp.Decode(r.Kind, r.Body)
		for _, x := range l {
			if e == api.OK {
				e = w.stores[tenant].Put(x)
			}
		}
		return e
	case frame.Retain:
		w.stores[tenant].Cut(r.At)
	case frame.Policy:
		l, e, _ := policy.Parse(r.Text)
		w.rules[tenant] = l
		return e
	case frame.Grant:
		x, e := grant.Parse(r.Text)
		switch {
		case e != api.OK:
			return e
		case x.From != tenant:
			return api.ErrDenied
		case m.place(x.To) < 0:
			return api.ErrNone
		}
		return w.grants.Add(x)
	case frame.Revoke:
		x, e := w.grants.Get(r.At)
		switch {
		case e != api.OK:
			return api.ErrNone
		case x.From != tenant:
			return api.ErrDenied
		}
		w.grants.Revoke(r.At)
	}
	return api.OK
}

// text is a log as the audit has it, its head, and its file's writes.
func (m *model) text(log string) ([]byte, [32]byte, [][]byte) {
	chain := audit.New()
	var text []byte
	var writes [][]byte
	for i, x := range m.done[log] {
		raw, _ := frame.Write(x.r)
		b, e := chain.Add(audit.Entry{Tenant: x.tenant, At: x.at, What: frame.Op(x.r.Op), Body: raw})
		if e != api.OK {
			return nil, [32]byte{}, nil
		}
		f, e := wal.Frame(uint64(i+1), b)
		if e != api.OK {
			return nil, [32]byte{}, nil
		}
		text = append(text, b...)
		writes = append(writes, f)
	}
	return text, chain.Head(), writes
}

// perform does an operation, and logs it, or refuses it.
func (m *model) perform(tenant string, r frame.Request, slot int64) api.Errno {
	if e := m.world().do(m, tenant, r); e != api.OK {
		return e
	}
	log := m.logOf(tenant, r.Op)
	was := m.done[log]
	m.done[log] = append(slices.Clone(was), deedDone{tenant, m.now, r, false})
	_, _, writes := m.text(log)
	if size := len(slices.Concat(writes...)); writes == nil || size > api.MaxFile {
		m.done[log] = was
		return api.ErrFull
	}
	m.due = append(m.due, Reply{tenant, api.Out{Id: r.Id, Slot: slot}})
	return api.OK
}

func (m *model) step(e api.Event) ([]Reply, api.Errno) {
	switch e.Kind {
	case api.EvRequest:
		return m.come(e.Peer, e.B), api.OK
	case api.EvTick:
		if e.N < m.now || e.N > api.MaxTime {
			return nil, api.ErrArg
		}
		m.now = e.N
		for _, l := range m.done {
			for i := range l {
				l[i].safe = true
			}
		}
		out := m.due
		m.due = nil
		return out, api.OK
	case api.EvSlot:
		return m.next(), api.OK
	case api.EvCrash:
		m.crash(e.Keeps)
		return nil, api.OK
	}
	return nil, api.ErrEvent
}

func (m *model) come(peer string, b []byte) []Reply {
	refuse := func(tenant string, id int64, why api.Errno) []Reply {
		return []Reply{{tenant, api.Out{Id: id, Slot: m.slot, Why: why}}}
	}
	who, e, _ := ident.Parse(peer)
	if e != api.OK {
		return refuse("", 0, e)
	}
	if m.place(who.Tenant) < 0 {
		return refuse(who.Tenant, 0, api.ErrNone)
	}
	r, e := frame.Read(b)
	if e != api.OK {
		return refuse(who.Tenant, 0, e)
	}
	if r.Op >= frame.Policy && !who.Admin {
		return refuse(who.Tenant, r.Id, api.ErrDenied)
	}
	switch r.Op {
	case frame.Policy, frame.Grant, frame.Revoke:
		e = m.perform(who.Tenant, r, m.slot)
	case frame.Put:
		if _, e = otlp.Decode(r.Kind, r.Body); e == api.OK {
			e = m.push(who.Tenant, r)
		}
	case frame.Query:
		if _, e, _ = rewrite.Read(r.Kind, r.Text); e == api.OK {
			e = m.push(who.Tenant, r)
		}
	default:
		e = m.push(who.Tenant, r)
	}
	if e != api.OK {
		return refuse(who.Tenant, r.Id, e)
	}
	return nil
}

// push takes tokens, and puts a request into its queue.
func (m *model) push(tenant string, r frame.Request) api.Errno {
	cost := frame.Cost(r)
	b := m.buckets[tenant]
	if m.now > b.upTo {
		b.holds.Add(b.holds, new(big.Int).Mul(big.NewInt(m.now-b.upTo), big.NewInt(b.rate)))
		b.upTo = m.now
	}
	if b.holds.Cmp(parts(b.burst)) > 0 {
		b.holds = parts(b.burst)
	}
	price := parts(cost * api.One)
	if b.holds.Cmp(price) < 0 {
		b.refusals++
		return api.ErrQuota
	}
	b.taken++
	b.costs += cost * api.One
	if len(m.jobs[tenant]) == api.MaxQueue {
		return api.ErrQueue
	}
	b.holds.Sub(b.holds, price)
	weight := int64(m.c.Tenants[m.place(tenant)].Weight)
	j := &modelJob{tenant, r, cost, max(m.virtual, m.ends[tenant])}
	m.ends[tenant] = j.start + cost*720720/weight
	m.jobs[tenant] = append(m.jobs[tenant], j)
	return api.OK
}

// turn is the job that the next slot serves; nil, if it serves none.
func (m *model) turn() *modelJob {
	if m.c.Mode == slots.Fixed {
		l := m.jobs[m.c.Tenants[int(m.slot)%len(m.c.Tenants)].Name]
		if len(l) == 0 {
			return nil
		}
		return l[0]
	}
	if m.served != nil {
		return m.served
	}
	for _, t := range m.c.Tenants {
		if l := m.jobs[t.Name]; len(l) > 0 && (m.served == nil || l[0].start < m.served.start) {
			m.served = l[0]
		}
	}
	if m.served != nil {
		m.virtual = m.served.start
	}
	return m.served
}

func (m *model) next() []Reply {
	j := m.turn()
	slot := m.slot
	m.slot++
	if j == nil {
		return nil
	}
	if j.left--; j.left > 0 {
		return nil
	}
	m.served = nil
	m.jobs[j.tenant] = m.jobs[j.tenant][1:]
	left := 0
	for _, l := range m.jobs {
		left += len(l)
	}
	if left == 0 {
		m.virtual, m.ends = 0, map[string]int64{}
	}
	out := api.Out{Id: j.r.Id, Slot: slot}
	switch j.r.Op {
	case frame.Put, frame.Retain:
		if out.Why = m.perform(j.tenant, j.r, slot); out.Why == api.OK {
			return nil
		}
	case frame.Query:
		out.Body, out.Why = m.query(j.tenant, j.r)
	case frame.Trace:
		out.Body = m.trace(j.tenant, j.r)
	case frame.Stats:
		out.Body = m.stats(j.tenant)
	}
	if out.Why == api.OK && len(out.Body) > api.MaxText {
		out.Why = api.ErrSize
	}
	if out.Why != api.OK {
		out.Body = ""
	}
	return []Reply{{j.tenant, out}}
}

// views are what a tenant sees of a kind, with those of which a test holds.
func (m *model) views(w *world, tenant string, kind int, can func(v api.View) bool) []api.View {
	out := []api.View{{Owner: tenant}}
	for _, t := range m.c.Tenants {
		if t.Name == tenant {
			continue
		}
		var l []api.View
		l = append(l, policy.Views(w.rules[t.Name], t.Name, tenant, kind)...)
		for _, v := range w.grants.Reach(tenant, kind, m.now) {
			if v.Owner == t.Name {
				l = append(l, v)
			}
		}
		for _, v := range l {
			if can(v) {
				out = append(out, v)
				break
			}
		}
	}
	return out
}

func (m *model) query(tenant string, r frame.Request) (string, api.Errno) {
	w := m.world()
	plan, _, _ := rewrite.Read(r.Kind, r.Text)
	views := m.views(w, tenant, r.Kind, func(v api.View) bool {
		_, e := rewrite.Plans(plan, []api.View{v})
		return e == api.OK
	})
	plans, _ := rewrite.Plans(plan, views)
	key := strings.Join([]string{strconv.Itoa(r.Kind), strconv.FormatInt(r.At, 10), strconv.FormatInt(r.From, 10), strconv.FormatInt(r.To, 10)}, "/")
	stamp := ""
	var points []meval.Source
	var signals []search.Source
	for i, p := range plans {
		text, _ := rewrite.Text(p)
		key += "\n" + p.View.Owner + "\n" + text + "\n" + strings.Join(p.View.Hidden, ",")
		stamp += p.View.Owner + "\n" + strconv.FormatInt(w.stores[p.View.Owner].Version(), 10) + "\n" + attr.MatchText(p.View.Scope) + "\n"
		points = append(points, meval.Source{Owner: p.View.Owner, Store: w.stores[p.View.Owner], Query: p.Metric, Hidden: p.View.Hidden})
		signals = append(signals, search.Source{Owner: p.View.Owner, Store: w.stores[p.View.Owner], View: views[i]})
	}
	if text, ok := m.ask(tenant, key, stamp); ok {
		return text, api.OK
	}
	var text string
	var e api.Errno
	switch r.Kind {
	case api.KPoint:
		var v meval.Value
		v, _, e = meval.Eval(points, r.At, m.c.Budget)
		text = meval.Text(v)
	case api.KLine:
		var hits []search.Hit
		hits, _, e = search.Lines(signals, plan.Log, r.From, r.To, m.c.Budget)
		text = search.Text(hits)
	case api.KSpan:
		var hits []search.Hit
		hits, _, e = search.Spans(signals, plan.Trace, r.From, r.To, m.c.Budget)
		text = search.Text(hits)
	}
	if e == api.OK && len(text) <= api.MaxText {
		m.kept[tenant] = append(m.kept[tenant], modelAnswer{key, stamp, text})
		if l := m.kept[tenant]; len(l) > api.MaxCache {
			m.kept[tenant] = l[1:]
		}
	}
	return text, e
}

// ask tells an answer that is kept, which is the last one asked for then; one with another stamp goes.
func (m *model) ask(tenant, key, stamp string) (string, bool) {
	l := m.kept[tenant]
	at := slices.IndexFunc(l, func(x modelAnswer) bool { return x.key == key })
	if at < 0 {
		m.misses[tenant]++
		return "", false
	}
	x := l[at]
	l = slices.Delete(l, at, at+1)
	if x.stamp != stamp {
		m.misses[tenant]++
		m.kept[tenant] = l
		return "", false
	}
	m.hits[tenant]++
	m.kept[tenant] = append(l, x)
	return x.text, true
}

func (m *model) trace(tenant string, r frame.Request) string {
	w := m.world()
	var l []search.Source
	for _, v := range m.views(w, tenant, api.KSpan, func(api.View) bool { return true }) {
		l = append(l, search.Source{Owner: v.Owner, Store: w.stores[v.Owner], View: v})
	}
	var id [16]byte
	copy(id[:], r.Body)
	hits, deep := search.Trace(l, id)
	text := ""
	for i := range hits {
		text += strconv.Itoa(deep[i]) + " " + search.Text(hits[i:i+1])
	}
	return text
}

func (m *model) stats(tenant string) string {
	s, b := m.world().stores[tenant], m.buckets[tenant]
	head, n := m.Head(tenant)
	var text strings.Builder
	word := func(name string, n int64, end string) {
		text.WriteString(name + " " + strconv.FormatInt(n, 10) + end)
	}
	word("points", int64(s.Len(api.KPoint)), " ")
	word("lines", int64(s.Len(api.KLine)), " ")
	word("spans", int64(s.Len(api.KSpan)), " ")
	word("version", s.Version(), "\n")
	word("taken", b.taken, " ")
	word("refused", b.refusals, " ")
	word("cost", b.costs, "\n")
	word("hits", m.hits[tenant], " ")
	word("misses", m.misses[tenant], "\n")
	word("log", n, " "+sha.Hex(head)+"\n")
	return text.String()
}

// crash leaves of each log the records that stand whole in what is kept of its file.
func (m *model) crash(keeps []api.Keep) {
	for log, l := range m.done {
		_, _, writes := m.text(log)
		var n []int
		if at := slices.IndexFunc(keeps, func(k api.Keep) bool { return k.Name == log+".log" }); at >= 0 {
			n = keeps[at].N
		}
		var file, gap []byte
		write := 0
		for i, x := range l {
			b := writes[i]
			most := len(b)
			if !x.safe {
				most = 0
				if write < len(n) {
					most = min(max(n[write], 0), len(b))
				}
				write++
			}
			if most > 0 {
				file = append(append(file, gap...), b[:most]...)
				gap = nil
			}
			gap = append(gap, make([]byte, len(b)-most)...)
		}
		records, _, _ := wal.Frames(file)
		m.done[log] = slices.Clone(l[:len(records)])
		for i := range m.done[log] {
			m.done[log][i].safe = true
		}
	}
	m.clear()
}

func (m *model) Now() int64   { return m.now }
func (m *model) Slot() int64  { return m.slot }
func (m *model) Pending() int { return len(m.due) }

func (m *model) Waiting(tenant string) int { return len(m.jobs[tenant]) }

func (m *model) Records(tenant string) []api.Record {
	if m.place(tenant) < 0 {
		return nil
	}
	return slices.Collect(m.world().stores[tenant].All())
}

func (m *model) Rules(tenant string) []api.Rule { return m.world().rules[tenant] }
func (m *model) Grants() []api.Grant            { return slices.Collect(m.world().grants.All()) }

func (m *model) log(tenant string) string {
	if tenant == "" {
		return "adm"
	}
	return "t" + strconv.Itoa(m.place(tenant))
}

func (m *model) Log(tenant string) []byte {
	b, _, _ := m.text(m.log(tenant))
	return b
}

func (m *model) Head(tenant string) ([32]byte, int64) {
	_, head, _ := m.text(m.log(tenant))
	return head, int64(len(m.done[m.log(tenant)]))
}

func (m *model) Owners(tenant string) []string {
	if m.place(tenant) < 0 {
		return nil
	}
	w := m.world()
	var out []string
	for _, t := range m.c.Tenants {
		seen := t.Name == tenant || slices.Contains(w.grants.Owners(tenant, m.now), t.Name)
		for kind := 1; kind <= 3; kind++ {
			seen = seen || len(policy.Views(w.rules[t.Name], t.Name, tenant, kind)) > 0
		}
		if seen {
			out = append(out, t.Name)
		}
	}
	return out
}
