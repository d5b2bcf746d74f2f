// Package tenants keeps what each tenant has, by the tenants' names. It stands below the layers that keep something of each tenant, so that all of them have room for as many, and go through them in one order.
package tenants

import (
	"iter"
	"slices"
	"strings"

	"belfry/api"
)

// Roll is what tenants have, in the order of their names, byte by byte; any text is a name. The zero Roll has no tenants.
type Roll[V any] struct {
	rows []*row[V]
}

// row is a tenant's name, and what it has.
type row[V any] struct {
	name string
	has  V
}

// place tells where a tenant stands, or would stand, and whether it is there.
func (r *Roll[V]) place(name string) (int, bool) {
	byName := func(x *row[V], name string) int { return strings.Compare(x.name, name) }
	return slices.BinarySearchFunc(r.rows, name, byName)
}

// Put gives a tenant something, in the place of what it had; ErrFull, if there are MaxTenants others.
func (r *Roll[V]) Put(name string, v V) api.Errno {
	at, there := r.place(name)
	switch {
	case there:
		r.rows[at].has = v
	case len(r.rows) == api.MaxTenants:
		return api.ErrFull
	default:
		r.rows = slices.Insert(r.rows, at, &row[V]{name, v})
	}
	return api.OK
}

// Find tells what a tenant has, for a caller that may change it there; ErrNone, if there is no such tenant.
func (r *Roll[V]) Find(name string) (*V, api.Errno) {
	at, there := r.place(name)
	if !there {
		return nil, api.ErrNone
	}
	return &r.rows[at].has, api.OK
}

// Drop takes a tenant away; ErrNone, if there is no such one.
func (r *Roll[V]) Drop(name string) api.Errno {
	at, there := r.place(name)
	if !there {
		return api.ErrNone
	}
	r.rows = slices.Delete(r.rows, at, at+1)
	return api.OK
}

// Len tells how many tenants there are.
func (r *Roll[V]) Len() int {
	return len(r.rows)
}

// All goes through the tenants and what they have, in order.
func (r *Roll[V]) All() iter.Seq2[string, *V] {
	return func(yield func(string, *V) bool) {
		for _, x := range r.rows {
			if !yield(x.name, &x.has) {
				return
			}
		}
	}
}

// Copy tells another roll, in which each tenant has the same.
func (r *Roll[V]) Copy() Roll[V] {
	out := Roll[V]{rows: make([]*row[V], len(r.rows))}
	for i, x := range r.rows {
		out.rows[i] = &row[V]{x.name, x.has}
	}
	return out
}
