package gate

import (
	"belfry/api"
	"belfry/audit"
	"belfry/frame"
	"belfry/grant"
	"belfry/otlp"
	"belfry/policy"
	"belfry/rewrite"
)

// deed is what a request does that asks one thing. An operation has a change, any other request tells something.
type deed struct {
	shared bool                                                // it is done as it comes, and stands in the log of all
	fault  func(frame.Request) api.Errno                       // why it is refused as it comes, if that can be
	change func(*Gate, int, frame.Request) (func(), api.Errno) // what of a tenant it will change, once it is logged
	tell   func(*Gate, int, frame.Request) (string, api.Errno) // what it tells a tenant
}

// deedOf tells what a request does; nothing, if it asks nothing that there is.
func deedOf(op int) deed {
	table := []deed{
		frame.Put:    {fault: messageFault, change: (*Gate).put},
		frame.Query:  {fault: queryFault, tell: (*Gate).query},
		frame.Trace:  {tell: (*Gate).trace},
		frame.Stats:  {tell: (*Gate).stats},
		frame.Policy: {shared: true, change: (*Gate).setRules},
		frame.Grant:  {shared: true, change: (*Gate).addGrant},
		frame.Revoke: {shared: true, change: (*Gate).revoke},
		frame.Retain: {change: (*Gate).retain},
	}
	if op < 0 || op >= len(table) {
		return deed{}
	}
	return table[op]
}

func messageFault(r frame.Request) api.Errno {
	_, e := otlp.Decode(r.Kind, r.Body)
	return e
}

func queryFault(r frame.Request) api.Errno {
	_, e, _ := rewrite.Read(r.Kind, r.Text)
	return e
}

// perform does an operation and logs it; its answer waits for the next tick. With an error nothing changes.
func (g *Gate) perform(who int, r frame.Request, slot int64) api.Errno {
	d := deedOf(r.Op)
	change, e := d.change(g, who, r)
	if e != api.OK {
		return e
	}
	b := g.own[who]
	if d.shared {
		b = g.shared
	}
	tenant := g.tenants[who].Name
	// It was read from bytes: they are those that are written of it.
	body, _ := frame.Write(r)
	if e := b.add(audit.Entry{Tenant: tenant, At: g.clock, What: frame.Op(r.Op), Body: body}); e != api.OK {
		return e
	}
	change()
	g.due = append(g.due, Reply{tenant, api.Out{Id: r.Id, Slot: slot}})
	return api.OK
}

// put takes all records of a message, or none.
func (g *Gate) put(who int, r frame.Request) (func(), api.Errno) {
	l, e := otlp.Decode(r.Kind, r.Body)
	if e != api.OK {
		return nil, e
	}
	next := g.stores[who].Copy()
	for _, x := range l {
		if e := next.Put(x); e != api.OK {
			return nil, e
		}
	}
	return func() { g.stores[who] = next }, api.OK
}

func (g *Gate) retain(who int, r frame.Request) (func(), api.Errno) {
	return func() { g.stores[who].Cut(r.At) }, api.OK
}

func (g *Gate) setRules(who int, r frame.Request) (func(), api.Errno) {
	l, e, _ := policy.Parse(r.Text)
	if e != api.OK {
		return nil, e
	}
	return func() { g.rules[who] = l }, api.OK
}

// addGrant gives a grant of the tenant's own to another one.
func (g *Gate) addGrant(who int, r frame.Request) (func(), api.Errno) {
	x, e := grant.Parse(r.Text)
	if e != api.OK {
		return nil, e
	}
	if x.From != g.tenants[who].Name {
		return nil, api.ErrDenied
	}
	if _, there := g.number(x.To); !there {
		return nil, api.ErrNone
	}
	next := g.grants.Copy()
	if e := next.Add(x); e != api.OK {
		return nil, e
	}
	return func() { g.grants = next }, api.OK
}

// revoke takes a grant back that the tenant has given.
func (g *Gate) revoke(who int, r frame.Request) (func(), api.Errno) {
	x, e := g.grants.Get(r.At)
	if e != api.OK {
		return nil, e
	}
	if x.From != g.tenants[who].Name {
		return nil, api.ErrDenied
	}
	return func() { g.grants.Revoke(r.At) }, api.OK
}
