package slots

import (
	"math/rand"
	"slices"
	"testing"

	"belfry/api"
	"belfry/fair"
)

// plan is a table of fixed turns by the chapter's words: each tenant has a list of its jobs' units that are not served, the last unit of a job marked.
type plan struct {
	slot  int64
	units map[string][]unit
}

type unit struct {
	job  api.Job
	last bool
}

func (p *plan) names() []string {
	var out []string
	for name := range p.units {
		out = append(out, name)
	}
	slices.Sort(out)
	return out
}

func (p *plan) waiting(tenant string) int {
	n := 0
	for _, u := range p.units[tenant] {
		if u.last {
			n++
		}
	}
	return n
}

func (p *plan) set(tenant string, weight int) api.Errno {
	mine, there := p.units[tenant]
	left := 0
	for _, l := range p.units {
		left += len(l)
	}
	switch {
	case weight < 1 || weight > 16:
		return api.ErrArg
	case there && len(mine) > 0, !there && left > 0:
		return api.ErrQueue
	case !there && len(p.units) >= 16:
		return api.ErrFull
	}
	p.units[tenant] = nil
	return api.OK
}

func (p *plan) push(tenant string, j api.Job) api.Errno {
	_, there := p.units[tenant]
	switch {
	case !there:
		return api.ErrNone
	case j.Cost < 1 || j.Cost > 1000:
		return api.ErrArg
	case p.waiting(tenant) >= 16:
		return api.ErrQueue
	}
	for i := range j.Cost {
		p.units[tenant] = append(p.units[tenant], unit{j, i == j.Cost-1})
	}
	return api.OK
}

func (p *plan) turn() string {
	names := p.names()
	if len(names) == 0 {
		return ""
	}
	return names[p.slot%int64(len(names))]
}

func (p *plan) step() Served {
	s := Served{Slot: p.slot, Tenant: p.turn()}
	if l := p.units[s.Tenant]; len(l) > 0 {
		s.Job, s.Done, s.Some = l[0].job, l[0].last, true
		p.units[s.Tenant] = l[1:]
	}
	p.slot++
	return s
}

func (p *plan) drop() int {
	n := 0
	for name := range p.units {
		n += p.waiting(name)
		p.units[name] = nil
	}
	return n
}

// within counts the slots one by one.
func (p *plan) within(tenant string, cost int64) int64 {
	names, need := p.names(), int64(len(p.units[tenant]))+cost
	var n int64
	for need > 0 {
		if names[(p.slot+n)%int64(len(names))] == tenant {
			need--
		}
		n++
	}
	return n
}

func (p *plan) same(t *testing.T, x *Table, tenant string) {
	t.Helper()
	if x.Slot() != p.slot || x.Turn() != p.turn() || !slices.Equal(x.Tenants(), p.names()) {
		t.Fatalf("%d %q %v, want %d %q %v", x.Slot(), x.Turn(), x.Tenants(), p.slot, p.turn(), p.names())
	}
	if x.Waiting(tenant) != p.waiting(tenant) || x.Ahead(tenant) != int64(len(p.units[tenant])) {
		t.Fatalf("%q: %d jobs that need %d, want %d, %d", tenant, x.Waiting(tenant), x.Ahead(tenant), p.waiting(tenant), len(p.units[tenant]))
	}
	if _, there := p.units[tenant]; there {
		if n, e := x.Within(tenant, 3); n != p.within(tenant, 3) || e != api.OK {
			t.Fatalf("Within(%q) = %d, %d, want %d", tenant, n, e, p.within(tenant, 3))
		}
	}
}

var someNames = []string{"", "a", "b", "ab", "B", "é", "c", "d", "e", "f", "g", "h", "i", "j", "k", "l", "m", "n"}

// P21.1 to P21.3, P21.6: a table of fixed turns is as the plan, call by call.
func TestFixedModel(t *testing.T) {
	for seed := range int64(300) {
		r := rand.New(rand.NewSource(seed))
		names := someNames[:1+r.Intn(len(someNames))]
		top := []int64{1, 2, 5, 1001}[r.Intn(4)]
		often := 3 + r.Intn(5) // how many of ten calls are slots
		x, p := New(Fixed), &plan{units: map[string][]unit{}}
		for id := range int64(300) {
			name := names[r.Intn(len(names))]
			switch k := r.Intn(10); {
			case k < often:
				if g, w := x.Step(), p.step(); g != w {
					t.Fatalf("seed %d: Step = %v, want %v", seed, g, w)
				}
			case k == 9 || id < 20:
				weight := r.Intn(18)
				if g, w := x.Set(name, weight), p.set(name, weight); g != w {
					t.Fatalf("seed %d: Set = %d, want %d", seed, g, w)
				}
			case k == 8 && r.Intn(10) == 0:
				if g, w := x.Drop(), p.drop(); g != w {
					t.Fatalf("seed %d: Drop = %d, want %d", seed, g, w)
				}
			default:
				j := api.Job{Id: id, Cost: r.Int63n(top + 1)}
				if g, w := x.Push(name, j), p.push(name, j); g != w {
					t.Fatalf("seed %d: Push = %d, want %d", seed, g, w)
				}
			}
			p.same(t, x, names[r.Intn(len(names))])
		}
	}
}

// P21.1, P21.2: a table by weights is as the scheduler of chapter 20, and counts its slots.
func TestFairModel(t *testing.T) {
	for seed := range int64(200) {
		r := rand.New(rand.NewSource(seed))
		names := someNames[:1+r.Intn(len(someNames))]
		x, s := New(Fair), fair.New()
		slot := int64(0)
		var there []string
		for id := range int64(300) {
			name := names[r.Intn(len(names))]
			switch k := r.Intn(10); {
			case k < 5:
				want := Served{Slot: slot}
				want.Tenant, want.Job, want.Done, want.Some = s.Step()
				slot++
				if g := x.Step(); g != want {
					t.Fatalf("seed %d: Step = %v, want %v", seed, g, want)
				}
			case k == 9 || id < 10:
				weight := r.Intn(18)
				g, w := x.Set(name, weight), s.Set(name, weight)
				if g != w {
					t.Fatalf("seed %d: Set = %d, want %d", seed, g, w)
				}
				if w == api.OK && !slices.Contains(there, name) {
					there = append(there, name)
				}
			case k == 8 && r.Intn(10) == 0:
				if g, w := x.Drop(), s.Drop(); g != w {
					t.Fatalf("seed %d: Drop = %d, want %d", seed, g, w)
				}
			default:
				j := api.Job{Id: id, Cost: r.Int63n(6)}
				if g, w := x.Push(name, j), s.Push(name, j); g != w {
					t.Fatalf("seed %d: Push = %d, want %d", seed, g, w)
				}
			}
			slices.Sort(there)
			if x.Waiting(name) != s.Waiting(name) || x.Ahead(name) != s.Ahead(name) || x.Slot() != slot || x.Turn() != "" || !slices.Equal(x.Tenants(), there) {
				t.Fatalf("seed %d: %q: %s", seed, name, state(x, name))
			}
		}
	}
}

// got is what a tenant's jobs get while it pushes by a seed of its own, and all others by another one's.
func got(t *testing.T, tenant string, mine, others int64) []Served {
	t.Helper()
	own, other := rand.New(rand.NewSource(mine)), rand.New(rand.NewSource(others))
	names := []string{"a", "b", "c", "d"}
	x := made(t, Fixed, names...)
	var out []Served
	for id := range int64(400) {
		if own.Intn(5) == 0 {
			out = append(out, Served{Slot: int64(x.Push(tenant, api.Job{Id: id, Cost: own.Int63n(4)}))})
			n, _ := x.Within(tenant, 2)
			out = append(out, Served{Slot: n + x.Ahead(tenant)})
		}
		for range other.Intn(4) {
			if name := names[other.Intn(len(names))]; name != tenant {
				x.Push(name, api.Job{Id: other.Int63(), Cost: other.Int63n(1002)})
				x.Set(name, other.Intn(18))
			}
		}
		if s := x.Step(); s.Tenant == tenant {
			out = append(out, s)
		}
	}
	return out
}

// P21.4: in fixed turns what a tenant's jobs get, and when, is the same whatever others push.
func TestNobodyLearns(t *testing.T) {
	for mine := range int64(20) {
		for _, tenant := range []string{"a", "b", "d"} {
			quiet := got(t, tenant, mine, 1000)
			for others := range int64(5) {
				if !slices.Equal(got(t, tenant, mine, 2000+others), quiet) {
					t.Fatalf("what %s gets hangs on others", tenant)
				}
			}
		}
	}
}

// due is a job that waits, and the slot ahead of which it is done.
type due struct {
	id, by int64
}

// watch is a table, and what of its jobs should be done by when.
type watch struct {
	x     *Table
	names []string
	lines map[string][]due
}

// push lets somebody push a job, if there is room, and notes what Within tells of it.
func (w *watch) push(t *testing.T, r *rand.Rand, slot, top int64) {
	t.Helper()
	name, cost := w.names[r.Intn(len(w.names))], 1+r.Int63n(top)
	n, e := w.x.Within(name, cost)
	if e != api.OK {
		t.Fatalf("Within = %d", e)
	}
	if w.x.Push(name, api.Job{Id: slot, Cost: cost}) == api.OK {
		w.lines[name] = append(w.lines[name], due{slot, slot + n})
	}
}

// served takes a slot's job off its tenant's line, and tells whether the slot did as it should.
func (w *watch) served(s Served, mode int) bool {
	l := w.lines[s.Tenant]
	if s.Some && (len(l) == 0 || s.Job.Id != l[0].id) {
		return false
	}
	if mode == Fixed && (s.Some != (len(l) > 0) || s.Tenant != w.names[s.Slot%int64(len(w.names))]) {
		return false
	}
	if s.Done {
		w.lines[s.Tenant] = l[1:]
	}
	return !s.Done || mode == Fair || l[0].by == s.Slot+1
}

// late tells whether a job should be done by a slot, and is not.
func (w *watch) late(slot int64) bool {
	for _, l := range w.lines {
		if len(l) > 0 && l[0].by <= slot+1 {
			return true
		}
	}
	return false
}

// P21.5, P21.6: in both modes a job is done within Within slots, in fixed turns at just the last of them; one job is served at a slot, and in fixed turns each tenant has each N-th.
func TestInTime(t *testing.T) {
	for seed := range int64(120) {
		r := rand.New(rand.NewSource(seed))
		mode, most, top := Fixed, api.MaxTenants, []int64{1, 3, 50, fair.MaxCost}[r.Intn(4)]
		if seed%3 == 0 { // few tenants and great costs, so that jobs wait for as long as the bound lets them
			mode, most, top = Fair, 3, fair.MaxCost
		}
		w := &watch{New(mode), slices.Sorted(slices.Values(someNames[:1+r.Intn(most)])), map[string][]due{}}
		for _, name := range w.names {
			set(t, w.x, name, 1+r.Intn(fair.MaxWeight))
		}
		for slot := range int64(20000) {
			if r.Intn(3) == 0 {
				w.push(t, r, slot, top)
			}
			if s := w.x.Step(); s.Slot != slot || !w.served(s, mode) || w.late(slot) {
				t.Fatalf("seed %d: the slot %d: %v: %v", seed, slot, s, w.lines)
			}
		}
	}
}
