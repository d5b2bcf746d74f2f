package policy

import (
	"slices"

	"belfry/api"
	"belfry/attr"
)

// Views tells what of an owner's signals of a kind a viewer sees by the owner's rules.
func Views(l []api.Rule, owner, viewer string, kind int) []api.View {
	switch {
	case kind < api.KPoint || kind > api.KSpan:
		return nil
	case viewer == owner:
		return []api.View{{Owner: owner}}
	}
	rules := rulesFor(l, viewer, kind)
	spared, ok := notDenied(rules)
	if !ok {
		return nil
	}
	var views []api.View
	for _, r := range rules {
		if r.Deny {
			continue
		}
		if scope, e := attr.Both(r.Scope, spared); e == api.OK {
			views = append(views, api.View{Owner: owner, Scope: scope, Hidden: slices.Clone(r.Hidden)})
		}
	}
	return views
}

// rulesFor tells the rules that can be and are for a viewer and a kind, in order.
func rulesFor(l []api.Rule, viewer string, kind int) []api.Rule {
	var places []int
	for whom, of := range placesByWhom(l) {
		if whom == viewer || whom == anybody {
			places = append(places, of...)
		}
	}
	slices.Sort(places)
	var rules []api.Rule
	for _, at := range places {
		if r := l[at]; r.Kind == 0 || r.Kind == kind {
			rules = append(rules, r)
		}
	}
	return rules
}

// placesByWhom tells where the rules that can be stand in a list, by whom they are for.
func placesByWhom(l []api.Rule) map[string][]int {
	places := make(map[string][]int)
	for at, r := range l {
		if Right(r) == api.OK {
			places[r.To] = append(places[r.To], at)
		}
	}
	return places
}

// notDenied tells what must hold of that which no denying rule fits; false, if one of them fits all.
func notDenied(rules []api.Rule) ([]api.Matcher, bool) {
	var spared []api.Matcher
	for _, r := range rules {
		if !r.Deny {
			continue
		}
		if len(r.Scope) == 0 {
			return nil, false
		}
		spared = append(spared, otherOne(r.Scope[0]))
	}
	return spared, true
}

// otherOne tells the matcher that holds just where this one does not.
func otherOne(m api.Matcher) api.Matcher {
	switch m.Op {
	case api.MEq:
		m.Op = api.MNe
	case api.MNe:
		m.Op = api.MEq
	case api.MHas:
		m.Op = api.MNot
	case api.MNot:
		m.Op = api.MHas
	}
	return m
}

// Sees tells a record as it is seen through the first of some views in whose scope it is, and whether there is one.
func Sees(v []api.View, r api.Record) (api.Record, bool) {
	for _, view := range v {
		if attr.Fits(r.Attrs, view.Scope) {
			r.Attrs = attr.Without(r.Attrs, view.Hidden...)
			return r, true
		}
	}
	return api.Record{}, false
}
