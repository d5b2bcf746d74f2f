package store

import (
	"iter"
	"slices"
)

// lists are lists by their keys, which stand in an order; no list is empty, and no key stands twice.
type lists[K, V any] struct {
	rows []*row[K, V]
}

// row is a list with its key.
type row[K, V any] struct {
	key   K
	items []V
}

// loan is a list while a call works at it: what is done to it holds when it is given back.
type loan[K, V any] struct {
	row[K, V]
	at    int // its place among the others
	there bool
}

// borrow tells the list of a key; an empty one, if there is none.
func (l *lists[K, V]) borrow(key K, order func(a, b K) int) *loan[K, V] {
	byKey := func(r *row[K, V], key K) int { return order(r.key, key) }
	at, there := slices.BinarySearchFunc(l.rows, key, byKey)
	b := &loan[K, V]{at: at, there: there}
	b.key = key
	if there {
		b.items = l.rows[at].items
	}
	return b
}

// giveBack puts a list that was borrowed in its place; one that was not there, and is still empty, is let go.
func (l *lists[K, V]) giveBack(b *loan[K, V]) {
	switch {
	case b.there:
		l.rows[b.at].items = b.items
	case len(b.items) > 0:
		l.rows = slices.Insert(l.rows, b.at, &row[K, V]{b.key, b.items})
	}
}

// all goes through the items, in the order of the keys, of one key as they were put.
func (l *lists[K, V]) all() iter.Seq[V] {
	return func(yield func(V) bool) {
		for _, r := range l.rows {
			for _, v := range r.items {
				if !yield(v) {
					return
				}
			}
		}
	}
}

// only leaves the items for which a test holds.
func (l *lists[K, V]) only(test func(V) bool) {
	var left []*row[K, V]
	for _, r := range l.rows {
		if items := filtered(r.items, test); len(items) > 0 {
			left = append(left, &row[K, V]{r.key, items})
		}
	}
	l.rows = left
}

// copy tells other lists as these are.
func (l *lists[K, V]) copy() lists[K, V] {
	out := lists[K, V]{rows: make([]*row[K, V], len(l.rows))}
	for i, r := range l.rows {
		out.rows[i] = &row[K, V]{r.key, slices.Clone(r.items)}
	}
	return out
}

// filtered tells the items for which a test holds, in new memory.
func filtered[V any](l []V, test func(V) bool) []V {
	var out []V
	for _, v := range l {
		if test(v) {
			out = append(out, v)
		}
	}
	return out
}
