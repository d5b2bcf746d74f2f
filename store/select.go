package store

import (
	"iter"
	"maps"
	"slices"

	"belfry/api"
	"belfry/attr"
)

// of goes through the records of a kind, in order; through none, if it is no kind.
func (s *Store) of(kind int) iter.Seq[*api.Record] {
	if s != nil {
		if l := s.kind(kind); l != nil {
			return l.all()
		}
	}
	return slices.Values[[]*api.Record](nil)
}

// that goes through the records for which a test holds.
func that(l iter.Seq[*api.Record], test func(*api.Record) bool) iter.Seq[*api.Record] {
	return func(yield func(*api.Record) bool) {
		for r := range l {
			if test(r) && !yield(r) {
				return
			}
		}
	}
}

// copies goes through copies of records, for callers that may write into them.
func copies(l iter.Seq[*api.Record]) iter.Seq[api.Record] {
	return func(yield func(api.Record) bool) {
		for r := range l {
			if !yield(copyOf(r)) {
				return
			}
		}
	}
}

// Select tells the records of a kind, of a name (any, if it is empty), that fit matchers, from one time to another, in order.
func (s *Store) Select(kind int, name string, m []api.Matcher, from, to int64) []api.Record {
	return slices.Collect(copies(that(s.of(kind), func(r *api.Record) bool {
		return (name == "" || r.Name == name) && from <= r.T && r.T <= to && attr.Fits(r.Attrs, m)
	})))
}

// Trace tells the spans of a trace, in order.
func (s *Store) Trace(trace [16]byte) []api.Record {
	return slices.Collect(copies(that(s.of(api.KSpan), func(r *api.Record) bool {
		return r.Trace == trace
	})))
}

// Keys tells the keys of a kind's attributes, rising.
func (s *Store) Keys(kind int) []string {
	keys := make(map[string]struct{})
	for r := range s.of(kind) {
		for key := range attr.Each(r.Attrs) {
			keys[key] = struct{}{}
		}
	}
	return slices.Sorted(maps.Keys(keys))
}

// Values tells the values that a key has among a kind's attributes, rising.
func (s *Store) Values(kind int, key string) []string {
	values := make(map[string]struct{})
	for r := range s.of(kind) {
		if value, ok := attr.Get(r.Attrs, key); ok {
			values[value] = struct{}{}
		}
	}
	return slices.Sorted(maps.Keys(values))
}
