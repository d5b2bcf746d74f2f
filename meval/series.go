package meval

import (
	"slices"
	"strings"

	"belfry/api"
	"belfry/attr"
	"belfry/fixed"
)

// tenant is the key by which a source shows its owner.
const tenant = "tenant"

// numberOf tells a number of a series' points; or that there is none.
type numberOf func(l []api.Record) (int64, bool)

// each makes a point of each series that a select finds in each source's store, within a time. Each point that it looks at takes a step.
func (r *reckoner) each(i int, from, to int64, number numberOf) (Value, api.Errno) {
	var made [][]api.Point
	for _, s := range r.sources {
		n := s.Query[i]
		found := s.Store.Select(api.KPoint, n.Name, n.Match, from, to)
		if !r.take(len(found)) {
			return Value{}, api.ErrBudget
		}
		made = append(made, s.made(found, number))
	}
	return Value{L: together(made...)}, api.OK
}

// made makes a point of each series among points that stand series by series.
func (s Source) made(found []api.Record, number numberOf) []api.Point {
	var out []api.Point
	for len(found) > 0 {
		n := seriesLen(found)
		if v, ok := number(found[:n]); ok {
			out = append(out, api.Point{Attrs: s.shown(found[0].Attrs), V: v})
		}
		found = found[n:]
	}
	return out
}

// seriesLen tells how many of the first points are of one series.
func seriesLen(l []api.Record) int {
	n := slices.IndexFunc(l, func(r api.Record) bool { return attr.Cmp(r.Attrs, l[0].Attrs) != 0 })
	if n < 0 {
		return len(l)
	}
	return n
}

// shown tells a series' attributes as a source shows them. That may be one more than a set has, so they are no answer of attr.Set.
func (s Source) shown(l []api.Attr) []api.Attr {
	out := attr.Without(attr.Without(l, s.Hidden...), tenant)
	if s.Owner == "" {
		return out
	}
	at, _ := slices.BinarySearchFunc(out, tenant, func(a api.Attr, key string) int { return strings.Compare(a.Key, key) })
	return slices.Insert(out, at, api.Attr{Key: tenant, Value: s.Owner})
}

// latest tells the number of a series' last point, of those that a select without a span sees.
func (r *reckoner) latest(l []api.Record) (int64, bool) {
	for _, p := range slices.Backward(l) {
		if p.T <= r.at {
			return taken(p.V), p.T > r.at-Look
		}
	}
	return 0, false
}

// callOf tells what a call makes of the points of its span.
func callOf(name string, span int64) numberOf {
	switch name {
	case "rate":
		return func(l []api.Record) (int64, bool) { return Rate(l, span) }
	case "delta":
		return Delta
	}
	return last
}

func last(l []api.Record) (int64, bool) {
	if len(l) == 0 {
		return 0, false
	}
	return taken(l[len(l)-1].V), true
}

// Rate tells how much the points of a span rise in a second. One that is below the one ahead of it has begun again, at 0.
func Rate(l []api.Record, span int64) (int64, bool) {
	if len(l) < 2 || span < 1 {
		return 0, false
	}
	var rise int64
	for i := 1; i < len(l); i++ {
		more := l[i].V
		if fixed.Cmp(more, l[i-1].V) >= 0 {
			more = fixed.Sub(more, l[i-1].V)
		}
		rise = fixed.Add(rise, more)
	}
	const perMillionth = 1000 // nanoseconds in a millionth of a second
	v, _ := fixed.Div(rise, max(span/perMillionth, 1))
	return v, true
}

// Delta tells how far the last point is above the first one.
func Delta(l []api.Record) (int64, bool) {
	end, ok := last(l)
	if !ok {
		return 0, false
	}
	return fixed.Sub(end, l[0].V), true
}

// taken is a number as fixed takes it: the least whole number stands for -Top.
func taken(v int64) int64 {
	return max(v, -fixed.Top)
}
