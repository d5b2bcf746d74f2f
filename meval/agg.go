package meval

import (
	"slices"

	"belfry/api"
	"belfry/attr"
	"belfry/fixed"
)

// Agg puts points with the same values of some keys together, as its name says.
func Agg(name string, by []string, l ...api.Point) ([]api.Point, api.Errno) {
	number := aggOf(name)
	if number == nil {
		return nil, api.ErrOp
	}
	keys := slices.Compact(slices.Sorted(slices.Values(by)))
	rows := make([]api.Point, len(l))
	for i, p := range together(l) {
		rows[i] = api.Point{Attrs: named(p.Attrs, keys), V: p.V}
	}
	// Stable: where a sum meets a bound it matters which number comes first, and within a group that is the order of the whole points.
	slices.SortStableFunc(rows, func(a, b api.Point) int { return attr.Cmp(a.Attrs, b.Attrs) })
	var out []api.Point
	for len(rows) > 0 {
		numbers := group(rows)
		out = append(out, api.Point{Attrs: rows[0].Attrs, V: number(numbers)})
		rows = rows[len(numbers):]
	}
	return out, api.OK
}

// named tells those attributes that keys name, in the keys' order.
func named(l []api.Attr, keys []string) []api.Attr {
	var out []api.Attr
	for _, key := range keys {
		if value, ok := attr.Get(l, key); ok {
			out = append(out, api.Attr{Key: key, Value: value})
		}
	}
	return out
}

// group tells the numbers of the first rows, of those that have the same attributes.
func group(rows []api.Point) []int64 {
	var out []int64
	for _, p := range rows {
		if attr.Cmp(p.Attrs, rows[0].Attrs) != 0 {
			break
		}
		out = append(out, p.V)
	}
	return out
}

// aggOf tells what an aggregate makes of a group's numbers; nothing, if its name is none.
func aggOf(name string) func(l []int64) int64 {
	switch name {
	case "sum":
		return sum
	case "min":
		return func(l []int64) int64 { return taken(foremost(l, fixed.Cmp)) }
	case "max":
		return func(l []int64) int64 { return taken(foremost(l, falling)) }
	case "avg":
		return average
	case "count":
		return count
	}
	return nil
}

func sum(l []int64) int64 {
	return fixed.Sum(l...)
}

func count(l []int64) int64 {
	return fixed.Of(int64(len(l)))
}

// average is asked of a group alone, which is never empty.
func average(l []int64) int64 {
	v, _ := fixed.Div(sum(l), count(l))
	return v
}

func falling(a, b int64) int {
	return fixed.Cmp(b, a)
}

// foremost tells the item that an order puts ahead of all others: the least one, or by a falling order the greatest.
func foremost[T any](l []T, order func(a, b T) int) T {
	out := l[0]
	for _, v := range l[1:] {
		if order(v, out) < 0 {
			out = v
		}
	}
	return out
}
