package gate

import (
	"slices"
	"strconv"
	"strings"

	"belfry/api"
	"belfry/attr"
	"belfry/frame"
	"belfry/meval"
	"belfry/policy"
	"belfry/rewrite"
	"belfry/search"
	"belfry/sha"
)

// answer tells what a request that changes nothing asks for.
func (g *Gate) answer(who int, r frame.Request) (string, api.Errno) {
	text, e := deedOf(r.Op).tell(g, who, r)
	switch {
	case e != api.OK:
		return "", e
	case len(text) > api.MaxText:
		return "", api.ErrSize
	}
	return text, api.OK
}

// views tells what a tenant sees of a kind: its own, and of each other one the first view that can be.
func (g *Gate) views(who, kind int, can func(api.View) bool) []api.View {
	seen := []api.View{{Owner: g.tenants[who].Name}}
	for owner := range g.tenants {
		if owner == who {
			continue
		}
		l := g.given(owner, who, kind)
		if at := slices.IndexFunc(l, can); at >= 0 {
			seen = append(seen, l[at])
		}
	}
	return seen
}

// given tells the views that an owner's rules, and then grants, give to another tenant now.
func (g *Gate) given(owner, who, kind int) []api.View {
	name, viewer := g.tenants[owner].Name, g.tenants[who].Name
	l := policy.Views(g.rules[owner], name, viewer, kind)
	for _, v := range g.grants.Reach(viewer, kind, g.clock) {
		if v.Owner == name {
			l = append(l, v)
		}
	}
	return l
}

// query tells what fits a query: as it was told before, where all that it hangs on is the same.
func (g *Gate) query(who int, r frame.Request) (string, api.Errno) {
	plan, e, _ := rewrite.Read(r.Kind, r.Text)
	if e != api.OK {
		return "", e
	}
	plans, e := rewrite.Plans(plan, g.views(who, r.Kind, shows(plan)))
	if e != api.OK {
		return "", e
	}
	key, e := keyOf(r, plans)
	if e != api.OK {
		return "", e
	}
	tenant, stamp := g.tenants[who].Name, g.stampOf(plans)
	if text, ok := g.answers.Get(tenant, key, stamp); ok {
		return text, api.OK
	}
	text, e := g.reckon(r, plan, plans)
	if e != api.OK {
		return "", e
	}
	// A text that is too long for an answer is too long to be kept.
	g.answers.Put(tenant, key, stamp, text)
	return text, api.OK
}

// shows tells whether a query can be put into a view.
func shows(p rewrite.Plan) func(api.View) bool {
	return func(v api.View) bool {
		_, e := rewrite.Plans(p, []api.View{v})
		return e == api.OK
	}
}

// keyOf tells by what the answer to a query is kept.
func keyOf(r frame.Request, plans []rewrite.Plan) (string, api.Errno) {
	key, e := rewrite.Key(plans)
	if e != api.OK {
		return "", e
	}
	when := decimal(r.At)
	if r.Kind != api.KPoint {
		when = decimal(r.From) + " " + decimal(r.To)
	}
	return strconv.Itoa(r.Kind) + " " + when + "\n" + key, api.OK
}

// stampOf tells on what the answer to plans hangs beside what they ask.
func (g *Gate) stampOf(plans []rewrite.Plan) string {
	var s strings.Builder
	for _, p := range plans {
		owner, _ := g.number(p.View.Owner)
		s.WriteString(p.View.Owner + " " + decimal(g.stores[owner].Version()) + " " + attr.MatchText(p.View.Scope) + "\n")
	}
	return s.String()
}

// reckon tells the answer to a query.
func (g *Gate) reckon(r frame.Request, plan rewrite.Plan, plans []rewrite.Plan) (string, api.Errno) {
	if r.Kind == api.KPoint {
		v, _, e := meval.Eval(g.metrics(plans), r.At, g.budget)
		return meval.Text(v), e
	}
	var views []api.View
	for _, p := range plans {
		views = append(views, p.View)
	}
	var hits []search.Hit
	var e api.Errno
	if r.Kind == api.KLine {
		hits, _, e = search.Lines(g.signals(views), plan.Log, r.From, r.To, g.budget)
	} else {
		hits, _, e = search.Spans(g.signals(views), plan.Trace, r.From, r.To, g.budget)
	}
	return search.Text(hits), e
}

func (g *Gate) metrics(plans []rewrite.Plan) []meval.Source {
	var l []meval.Source
	for _, p := range plans {
		owner, _ := g.number(p.View.Owner)
		l = append(l, meval.Source{Owner: p.View.Owner, Store: g.stores[owner], Query: p.Metric, Hidden: p.View.Hidden})
	}
	return l
}

func (g *Gate) signals(views []api.View) []search.Source {
	var l []search.Source
	for _, v := range views {
		owner, _ := g.number(v.Owner)
		l = append(l, search.Source{Owner: v.Owner, Store: g.stores[owner], View: v})
	}
	return l
}

// trace tells what is seen of a trace, each span behind how deep it lies.
func (g *Gate) trace(who int, r frame.Request) (string, api.Errno) {
	views := g.views(who, api.KSpan, func(api.View) bool { return true })
	hits, depths := search.Trace(g.signals(views), [16]byte(r.Body))
	var s strings.Builder
	for i, h := range hits {
		s.WriteString(strconv.Itoa(depths[i]) + " " + search.Text([]search.Hit{h}))
	}
	return s.String(), api.OK
}

// stats tells a tenant's counts.
func (g *Gate) stats(who int, r frame.Request) (string, api.Errno) {
	tenant, s, chain := g.tenants[who].Name, g.stores[who], g.own[who].chain
	taken, _ := g.buckets.Counts(tenant)
	asked := g.answers.Counts(tenant)
	return "points " + strconv.Itoa(s.Len(api.KPoint)) + " lines " + strconv.Itoa(s.Len(api.KLine)) +
		" spans " + strconv.Itoa(s.Len(api.KSpan)) + " version " + decimal(s.Version()) + "\n" +
		"taken " + decimal(taken.Taken) + " refused " + decimal(taken.Refused) + " cost " + decimal(taken.Cost) + "\n" +
		"hits " + decimal(asked.Hits) + " misses " + decimal(asked.Misses) + "\n" +
		"log " + decimal(chain.Len()) + " " + sha.Hex(chain.Head()) + "\n", api.OK
}

func decimal(n int64) string {
	return strconv.FormatInt(n, 10)
}
