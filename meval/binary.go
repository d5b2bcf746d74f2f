package meval

import (
	"belfry/api"
	"belfry/attr"
	"belfry/fixed"
)

// operate reckons with two numbers. Only a division has an error.
func operate(op int, a, b int64) (int64, api.Errno) {
	switch op {
	case api.OAdd:
		return fixed.Add(a, b), api.OK
	case api.OSub:
		return fixed.Sub(a, b), api.OK
	case api.OMul:
		return fixed.Mul(a, b), api.OK
	}
	return fixed.Div(a, b)
}

func binary(op int, a, b Value) (Value, api.Errno) {
	var pairs []pair
	switch {
	case a.Scalar && b.Scalar:
		v, e := operate(op, a.V, b.V)
		return Value{Scalar: true, V: v}, e
	case a.Scalar:
		for _, p := range b.L {
			pairs = append(pairs, pair{p.Attrs, a.V, p.V})
		}
	case b.Scalar:
		for _, p := range a.L {
			pairs = append(pairs, pair{p.Attrs, p.V, b.V})
		}
	default:
		pairs = partners(a.L, b.L)
	}
	return Value{L: together(results(op, pairs))}, api.OK
}

// pair is two numbers of which a point is made, with its attributes.
type pair struct {
	attrs []api.Attr
	a, b  int64
}

// results makes a point of each pair, but where it would be a division by 0.
func results(op int, l []pair) []api.Point {
	var out []api.Point
	for _, p := range l {
		if v, e := operate(op, p.a, p.b); e == api.OK {
			out = append(out, api.Point{Attrs: p.attrs, V: v})
		}
	}
	return out
}

// partners puts to each point on the left the first one on the right with the same attributes. Both lists are in order, so that none is gone through twice.
func partners(left, right []api.Point) []pair {
	var out []pair
	at := 0
points:
	for _, p := range left {
		for ; at < len(right); at++ {
			switch attr.Cmp(p.Attrs, right[at].Attrs) {
			case -1:
				continue points
			case 0:
				out = append(out, pair{p.Attrs, p.V, right[at].V})
				continue points
			}
		}
	}
	return out
}
