package grant

import (
	"cmp"
	"slices"

	"belfry/api"
	"belfry/attr"
)

// Reach tells what of a kind a viewer sees by grants at a time, in order of the owners, then of the grants' numbers.
func (s *Set) Reach(viewer string, kind int, now int64) []api.View {
	if s == nil || kind < api.KPoint || kind > api.KSpan {
		return nil
	}
	over := s.hanging(overAt(now))
	var seen []sight
	for id, k := range s.grants {
		if k.grant.To != viewer || k.grant.Kind != 0 && k.grant.Kind != kind || over(id) {
			continue
		}
		if view, ok := sees(s.chain(id)); ok {
			seen = append(seen, sight{id, view})
		}
	}
	slices.SortFunc(seen, bySight)
	var views []api.View
	for _, x := range seen {
		views = append(views, x.view)
	}
	return views
}

// sight is a view, and the number of the grant by which it is there.
type sight struct {
	id   int64
	view api.View
}

func bySight(a, b sight) int {
	return cmp.Or(cmp.Compare(a.view.Owner, b.view.Owner), cmp.Compare(a.id, b.id))
}

// sees tells what the last grant of a chain lets see: what is within the scopes of all, unless these are too many.
func sees(chain []api.Grant) (api.View, bool) {
	var scope []api.Matcher
	for _, g := range chain {
		both, e := attr.Both(scope, g.Scope)
		if e != api.OK {
			return api.View{}, false
		}
		scope = both
	}
	return api.View{Owner: chain[0].From, Scope: scope}, true
}

// Owners tells whose signals, of any kind, a viewer sees by grants at a time, rising.
func (s *Set) Owners(viewer string, now int64) []string {
	var owners []string
	for kind := api.KPoint; kind <= api.KSpan; kind++ {
		for _, view := range s.Reach(viewer, kind, now) {
			owners = append(owners, view.Owner)
		}
	}
	slices.Sort(owners)
	return slices.Compact(owners)
}
