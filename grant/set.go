package grant

import (
	"cmp"
	"iter"
	"maps"
	"slices"

	"belfry/api"
)

// Set keeps grants. The parent of each that has one is there too.
type Set struct {
	added  int64 // how many were added, those that are gone among them
	grants map[int64]kept
}

// kept is a grant that is there. What it holds is never changed, so that copies of a set may share it.
type kept struct {
	grant api.Grant
	place int64 // how many had been added ahead of it
}

// New tells a set without grants.
func New() *Set {
	return &Set{}
}

// Add puts a grant into the set.
func (s *Set) Add(g api.Grant) api.Errno {
	if s == nil {
		return api.ErrNil
	}
	if e := s.canAdd(g); e != api.OK {
		return e
	}
	if s.grants == nil {
		s.grants = make(map[int64]kept)
	}
	s.grants[g.Id] = kept{grant: clone(g), place: s.added}
	s.added++
	return api.OK
}

func (s *Set) canAdd(g api.Grant) api.Errno {
	if e := Right(g); e != api.OK {
		return e
	}
	if _, there := s.grants[g.Id]; there {
		return api.ErrTwice
	}
	if len(s.grants) >= api.MaxGrants {
		return api.ErrFull
	}
	if g.Parent == 0 {
		return api.OK
	}
	parent, there := s.grants[g.Parent]
	switch {
	case !there:
		return api.ErrNone
	case !handsOn(parent.grant, g) || g.To == s.owner(g.Parent):
		return api.ErrDenied
	}
	return api.OK
}

// handsOn tells whether a grant lets another one be given of what is seen by it.
func handsOn(parent, g api.Grant) bool {
	return g.From == parent.To && (parent.Kind == 0 || g.Kind == parent.Kind) && g.Until <= parent.Until && g.Depth < parent.Depth
}

// clone tells a grant that shares no memory.
func clone(g api.Grant) api.Grant {
	g.Scope = slices.Clone(g.Scope)
	return g
}

// Revoke takes a grant away, and all that hang on it, and tells how many these are.
func (s *Set) Revoke(id int64) (int, api.Errno) {
	if s == nil {
		return 0, api.ErrNil
	}
	if _, there := s.grants[id]; !there {
		return 0, api.ErrNone
	}
	return s.drop(func(g api.Grant) bool { return g.Id == id }), api.OK
}

// Expire takes the grants away whose time is over, and all that hang on them, and tells how many these are.
func (s *Set) Expire(now int64) int {
	if s == nil {
		return 0
	}
	return s.drop(overAt(now))
}

// overAt tells, of a time, whether a grant lets nobody see anything any more.
func overAt(now int64) func(api.Grant) bool {
	return func(g api.Grant) bool { return g.Until <= now }
}

// drop takes away what hangs on grants of which something holds. All of them are found first: a chain is whole only as long as none of it is gone.
func (s *Set) drop(holds func(api.Grant) bool) int {
	hangs := s.hanging(holds)
	var gone []int64
	for id := range s.grants {
		if hangs(id) {
			gone = append(gone, id)
		}
	}
	for _, id := range gone {
		delete(s.grants, id)
	}
	return len(gone)
}

// hanging tells whether something holds of one of a grant's chain, be it the grant itself.
func (s *Set) hanging(holds func(api.Grant) bool) func(id int64) bool {
	return func(id int64) bool {
		return slices.ContainsFunc(s.chain(id), holds)
	}
}

// chain tells the grants from the one without a parent on to that of a number; they share the set's memory.
func (s *Set) chain(id int64) []api.Grant {
	var chain []api.Grant
	for k, there := s.grants[id]; there; k, there = s.grants[k.grant.Parent] {
		chain = append(chain, k.grant)
	}
	slices.Reverse(chain)
	return chain
}

// owner tells whose the signals are that are seen by a grant that is there.
func (s *Set) owner(id int64) string {
	return s.chain(id)[0].From
}

// Chain tells the grants from the one without a parent on to that of a number.
func (s *Set) Chain(id int64) ([]api.Grant, api.Errno) {
	if s == nil {
		return nil, api.ErrNil
	}
	chain := s.chain(id)
	if len(chain) == 0 {
		return nil, api.ErrNone
	}
	for i, g := range chain {
		chain[i] = clone(g)
	}
	return chain, api.OK
}

// Get tells the grant of a number.
func (s *Set) Get(id int64) (api.Grant, api.Errno) {
	if s == nil {
		return api.Grant{}, api.ErrNil
	}
	k, there := s.grants[id]
	if !there {
		return api.Grant{}, api.ErrNone
	}
	return clone(k.grant), api.OK
}

// All goes through the grants that there are when it is called, in the order in which they were added.
func (s *Set) All() iter.Seq[api.Grant] {
	grants := s.inOrder()
	return func(yield func(api.Grant) bool) {
		for _, g := range grants {
			if !yield(clone(g)) {
				return
			}
		}
	}
}

// inOrder tells the grants in the order in which they were added; they share the set's memory.
func (s *Set) inOrder() []api.Grant {
	if s == nil {
		return nil
	}
	all := slices.SortedFunc(maps.Values(s.grants), func(a, b kept) int { return cmp.Compare(a.place, b.place) })
	var grants []api.Grant
	for _, k := range all {
		grants = append(grants, k.grant)
	}
	return grants
}

// Len tells how many grants there are, those whose time is over among them.
func (s *Set) Len() int {
	if s == nil {
		return 0
	}
	return len(s.grants)
}

// Copy tells another set as this one is.
func (s *Set) Copy() *Set {
	if s == nil {
		return nil
	}
	return &Set{added: s.added, grants: maps.Clone(s.grants)}
}

// Same tells whether two sets have the same grants, in the same order.
func (s *Set) Same(o *Set) bool {
	return s != nil && o != nil && slices.EqualFunc(s.inOrder(), o.inOrder(), Same)
}
