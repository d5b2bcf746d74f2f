package gate

import (
	"belfry/api"
	"belfry/cache"
	"belfry/fair"
	"belfry/frame"
	"belfry/ident"
	"belfry/quota"
	"belfry/slots"
)

// desk is what a crash takes away: requests and answers that wait, answers that are kept, and what was taken of the buckets. Only the slots go on.
type desk struct {
	turns   *slots.Table
	buckets *quota.Table
	answers *cache.Cache
	lines   []*fair.Queue[frame.Request] // by the tenants' numbers: the requests whose jobs wait, in the jobs' order
	due     []Reply                      // the answers that wait for the next tick
}

// open begins with the slots: the first one is next.
func (g *Gate) open(mode int) {
	g.turns = slots.New(mode)
	for _, t := range g.tenants {
		g.turns.Set(t.Name, t.Weight)
	}
	g.clear()
}

// clear lets all that waits and all that is kept go, and fills the buckets.
func (g *Gate) clear() {
	g.turns.Drop()
	g.buckets, g.answers = quota.New(), cache.New(api.MaxCache)
	g.lines, g.due = nil, nil
	for _, t := range g.tenants {
		g.buckets.Set(t.Name, t.Rate, t.Burst, g.clock)
		g.lines = append(g.lines, fair.NewQueue[frame.Request](api.MaxQueue))
	}
}

// come takes a request in, and tells the answer to one that is refused.
func (g *Gate) come(peer string, b []byte) []Reply {
	asker, e, _ := ident.Parse(peer)
	if e != api.OK {
		return g.refuse("", 0, e)
	}
	who, there := g.number(asker.Tenant)
	if !there {
		return g.refuse(asker.Tenant, 0, api.ErrNone)
	}
	r, e := frame.Read(b)
	if e != api.OK {
		return g.refuse(asker.Tenant, 0, e)
	}
	if frame.Admin(r.Op) && !asker.Admin {
		return g.refuse(asker.Tenant, r.Id, api.ErrDenied)
	}
	if e := g.take(who, r); e != api.OK {
		return g.refuse(asker.Tenant, r.Id, e)
	}
	return nil
}

// refuse tells an answer that goes out ahead of the next slot.
func (g *Gate) refuse(tenant string, id int64, why api.Errno) []Reply {
	return []Reply{{tenant, api.Out{Id: id, Slot: g.turns.Slot(), Why: why}}}
}

// take does a request at once, if it stands in the log of all; else it waits.
func (g *Gate) take(who int, r frame.Request) api.Errno {
	d := deedOf(r.Op)
	if d.shared {
		return g.perform(who, r, g.turns.Slot())
	}
	if d.fault != nil {
		if e := d.fault(r); e != api.OK {
			return e
		}
	}
	return g.wait(who, r)
}

// wait puts a request behind its tenant's others, for what it costs.
func (g *Gate) wait(who int, r frame.Request) api.Errno {
	tenant, cost := g.tenants[who].Name, frame.Cost(r)
	if e := g.buckets.Take(tenant, cost*api.One, g.clock); e != api.OK {
		return e
	}
	if e := g.turns.Push(tenant, api.Job{Id: r.Id, Cost: cost}); e != api.OK {
		g.buckets.Give(tenant, cost*api.One, g.clock)
		return e
	}
	// It has room for as many as there can be jobs.
	g.lines[who].Push(r)
	return api.OK
}

// slot is the next slot: if a job is done by it, its request is done now.
func (g *Gate) slot() []Reply {
	s := g.turns.Step()
	if !s.Done {
		return nil
	}
	// A tenant's jobs are done in the order in which they were pushed: its first request is the job's.
	who, _ := g.number(s.Tenant)
	r, _ := g.lines[who].Pop()
	out := api.Out{Id: r.Id, Slot: s.Slot}
	if deedOf(r.Op).change != nil {
		if out.Why = g.perform(who, r, s.Slot); out.Why == api.OK {
			return nil
		}
	} else {
		out.Body, out.Why = g.answer(who, r)
	}
	return []Reply{{s.Tenant, out}}
}
