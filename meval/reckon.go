package meval

import (
	"cmp"
	"math"
	"slices"

	"belfry/api"
	"belfry/attr"
	"belfry/fixed"
)

// reckoner goes through a query's nodes, whose parts stand ahead of them.
type reckoner struct {
	sources []Source
	nodes   []api.Node // the first source's
	at      int64
	budget  int
	steps   int
	values  []Value // of the nodes so far
}

// take tells whether so many steps more are within the budget.
func (r *reckoner) take(n int) bool {
	r.steps += n
	return r.steps <= r.budget
}

// reckon puts a node's value to those so far: it takes a step, and each point that it makes one more. Parentheses make none: theirs are their part's.
func (r *reckoner) reckon(i int) api.Errno {
	if !r.take(1) {
		return api.ErrBudget
	}
	v, e := r.node(i)
	if e != api.OK {
		return e
	}
	if r.nodes[i].Kind != api.NParen && !r.take(len(v.L)) {
		return api.ErrBudget
	}
	r.values = append(r.values, v)
	return api.OK
}

func (r *reckoner) node(i int) (Value, api.Errno) {
	n := r.nodes[i]
	switch n.Kind {
	case api.NNumber:
		return Value{Scalar: true, V: n.V}, api.OK
	case api.NSelect:
		if n.Range > 0 {
			return Value{}, api.OK // it is its call that looks at the points
		}
		return r.each(i, math.MinInt64, math.MaxInt64, r.latest)
	case api.NCall:
		span := r.nodes[n.A].Range
		return r.each(n.A, r.at-span+1, r.at, callOf(n.Name, span))
	case api.NAgg:
		l, e := Agg(n.Name, n.By, r.values[n.A].points()...)
		return Value{L: l}, e
	case api.NBinary:
		return binary(n.Op, r.values[n.A], r.values[n.B])
	case api.NNeg:
		return r.values[n.A].turned(), api.OK
	}
	return r.values[n.A], api.OK // parentheses
}

// points tells a value's points; a number is one without attributes.
func (v Value) points() []api.Point {
	if v.Scalar {
		return []api.Point{{V: v.V}}
	}
	return v.L
}

// turned tells a value with each number's sign turned.
func (v Value) turned() Value {
	if v.Scalar {
		return Value{Scalar: true, V: fixed.Neg(v.V)}
	}
	out := slices.Clone(v.L)
	for i, p := range out {
		out[i].V = fixed.Neg(p.V)
	}
	return Value{L: together(out)}
}

// together puts points together, in order.
func together(l ...[]api.Point) []api.Point {
	all := slices.Concat(l...)
	slices.SortFunc(all, func(a, b api.Point) int {
		return cmp.Or(attr.Cmp(a.Attrs, b.Attrs), fixed.Cmp(a.V, b.V))
	})
	return all
}
