package gate

import (
	"slices"

	"belfry/api"
	"belfry/audit"
	"belfry/frame"
	"belfry/grant"
	"belfry/store"
)

// holdings is what operations have made: of each tenant, by its number, its signals and its rules; and all grants.
type holdings struct {
	stores []*store.Store
	rules  [][]api.Rule
	grants *grant.Set
}

func noHoldings(tenants, room int) holdings {
	h := holdings{rules: make([][]api.Rule, tenants), grants: grant.New()}
	for range tenants {
		h.stores = append(h.stores, store.New(room))
	}
	return h
}

// start opens the logs, and does again what they have. With an error the gateway has nothing.
func (g *Gate) start() api.Errno {
	g.empty()
	for i, name := range g.logs() {
		b, entries, e := openBook(g.disk, name)
		if e != api.OK {
			g.empty()
			return e
		}
		shared := i == 0
		if shared {
			g.shared = b
		} else {
			g.own[i-1] = b
		}
		for _, x := range entries {
			g.redo(x, shared)
		}
	}
	return api.OK
}

// empty lets all go that logs have, and have made.
func (g *Gate) empty() {
	g.books = noBooks(len(g.tenants))
	g.holdings = noHoldings(len(g.tenants), g.room)
}

// redo does again what an entry says, if it is an operation that stands in such a log, and can be done.
func (g *Gate) redo(x audit.Entry, shared bool) {
	who, there := g.number(x.Tenant)
	r, e := frame.Read(x.Body)
	d := deedOf(r.Op)
	if !there || e != api.OK || d.change == nil || d.shared != shared {
		return
	}
	if change, e := d.change(g, who, r); e == api.OK {
		change()
	}
}

// crash lets the disk crash, and the gateway begin again with what its logs have.
func (g *Gate) crash(l []api.Keep) api.Errno {
	g.disk.Crash(g.keeps(l))
	g.clear()
	g.broken = g.start()
	return g.broken
}

// keeps tells what the disk is to keep: of each log's file what the first Keep of its name says, as far as there are writes.
func (g *Gate) keeps(l []api.Keep) []api.Keep {
	// A disk tells how many writes of all files are not safe: those of one file are as many as a sync of it takes away.
	trial := g.disk.Copy()
	var out []api.Keep
	for _, name := range g.logs() {
		name += fileEnd
		at := slices.IndexFunc(l, func(k api.Keep) bool { return k.Name == name })
		were := trial.Pending()
		if at < 0 || trial.Sync(name) != api.OK {
			continue
		}
		k := api.Keep{Name: name}
		for _, n := range l[at].N[:min(len(l[at].N), were-trial.Pending())] {
			k.N = append(k.N, max(n, 0))
		}
		out = append(out, k)
	}
	return out
}
