package gate

import (
	"slices"

	"belfry/api"
)

// Now tells the clock.
func (g *Gate) Now() int64 {
	if g.none() {
		return 0
	}
	return g.clock
}

// Slot tells the next slot's number.
func (g *Gate) Slot() int64 {
	if g.none() {
		return 0
	}
	return g.turns.Slot()
}

// Pending tells how many answers wait for the next tick.
func (g *Gate) Pending() int {
	if g.none() {
		return 0
	}
	return len(g.due)
}

// Waiting tells how many requests of a tenant wait.
func (g *Gate) Waiting(tenant string) int {
	if g.none() {
		return 0
	}
	return g.turns.Waiting(tenant)
}

// find tells a tenant's number, and whether there are a gateway and such a tenant.
func (g *Gate) find(tenant string) (int, bool) {
	if g.none() {
		return 0, false
	}
	return g.number(tenant)
}

// Records tells a tenant's signals, as they came.
func (g *Gate) Records(tenant string) []api.Record {
	who, there := g.find(tenant)
	if !there {
		return nil
	}
	return slices.Collect(g.stores[who].All())
}

// Rules tells a tenant's rules, which share no memory with those that are kept.
func (g *Gate) Rules(tenant string) []api.Rule {
	who, there := g.find(tenant)
	if !there {
		return nil
	}
	l := slices.Clone(g.rules[who])
	for i, r := range l {
		l[i].Scope, l[i].Hidden = slices.Clone(r.Scope), slices.Clone(r.Hidden)
	}
	return l
}

// Grants tells all grants, in the order in which they were added.
func (g *Gate) Grants() []api.Grant {
	if g.none() {
		return nil
	}
	return slices.Collect(g.grants.All())
}

// bookOf tells a tenant's log, of the empty name that of all; nil, if there is none.
func (g *Gate) bookOf(tenant string) *book {
	if tenant == "" && !g.none() {
		return g.shared
	}
	who, there := g.find(tenant)
	if !there {
		return nil
	}
	return g.own[who]
}

// Log tells a tenant's audit's log; of the empty name that of all.
func (g *Gate) Log(tenant string) []byte {
	b := g.bookOf(tenant)
	if b == nil {
		return nil
	}
	return b.text()
}

// Head tells the head of that log, and how many entries it has.
func (g *Gate) Head(tenant string) ([32]byte, int64) {
	b := g.bookOf(tenant)
	if b == nil {
		return [32]byte{}, 0
	}
	return b.chain.Head(), b.chain.Len()
}

// Owners tells whose signals a tenant may see now, rising.
func (g *Gate) Owners(tenant string) []string {
	who, there := g.find(tenant)
	if !there {
		return nil
	}
	var names []string
	for owner, t := range g.tenants {
		if owner == who || g.gives(owner, who) {
			names = append(names, t.Name)
		}
	}
	return names
}

// gives tells whether a tenant has a view of some kind of an owner's signals.
func (g *Gate) gives(owner, who int) bool {
	for kind := api.KPoint; kind <= api.KSpan; kind++ {
		if len(g.given(owner, who, kind)) > 0 {
			return true
		}
	}
	return false
}
