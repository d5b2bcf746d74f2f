package search

import (
	"cmp"
	"math"
	"slices"

	"belfry/api"
	"belfry/attr"
)

// shown tells all records of a kind that a source shows, as it shows them, in the store's order.
func (s Source) shown(kind int) []api.Record {
	return s.hide(s.Store.Select(kind, "", s.View.Scope, math.MinInt64, math.MaxInt64))
}

// hide takes what is hidden from records, which are the caller's own.
func (s Source) hide(l []api.Record) []api.Record {
	for i, r := range l {
		l[i].Attrs = attr.Without(r.Attrs, s.View.Hidden...)
	}
	return l
}

// hits tells those of a source's records that numbers name.
func (s Source) hits(l []api.Record, numbers []int) []Hit {
	out := make([]Hit, len(numbers))
	for at, i := range numbers {
		out[at] = Hit{s.Owner, l[i]}
	}
	return out
}

// test tells whether a record is one that is asked for.
type test func(r api.Record) bool

func within(from, to int64) test {
	return func(r api.Record) bool { return from <= r.T && r.T <= to }
}

// those tells the numbers of the records that pass all tests.
func those(l []api.Record, tests ...test) []int {
	var out []int
records:
	for i, r := range l {
		for _, passes := range tests {
			if !passes(r) {
				continue records
			}
		}
		out = append(out, i)
	}
	return out
}

// together puts the hits of sources together, the latest first. Those of one time stay as they came.
func together(sources ...[]Hit) []Hit {
	all := slices.Concat(sources...)
	slices.SortStableFunc(all, func(a, b Hit) int { return cmp.Compare(b.R.T, a.R.T) })
	return all
}

// first tells the first ones of a list, so many at most.
func first[T any](l []T, n int) []T {
	n = min(n, len(l))
	return l[:n:n]
}
