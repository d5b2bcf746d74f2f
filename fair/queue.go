package fair

import (
	"slices"

	"belfry/api"
)

// Queue is things of which the first that came is the first to go, with room for some.
type Queue[T any] struct {
	most  int
	items []T
}

// NewQueue tells an empty queue with room for so many things; nil, if that is below 1.
func NewQueue[T any](most int) *Queue[T] {
	if most < 1 {
		return nil
	}
	return &Queue[T]{most: most}
}

// Push puts a thing behind the others; ErrQueue, if there is no room.
func (q *Queue[T]) Push(x T) api.Errno {
	switch {
	case q == nil:
		return api.ErrNil
	case len(q.items) >= q.most:
		return api.ErrQueue
	}
	q.items = append(q.items, x)
	return api.OK
}

// Pop tells the first thing, which goes.
func (q *Queue[T]) Pop() (T, bool) {
	x, ok := q.Peek()
	if ok {
		// What has gone is not kept under the others.
		clear(q.items[:1])
		q.items = q.items[1:]
	}
	return x, ok
}

// Peek tells the first thing, which stays.
func (q *Queue[T]) Peek() (T, bool) {
	if q.Len() == 0 {
		var none T
		return none, false
	}
	return q.items[0], true
}

// Len tells how many things there are.
func (q *Queue[T]) Len() int {
	if q == nil {
		return 0
	}
	return len(q.items)
}

// All tells the things, in order.
func (q *Queue[T]) All() []T {
	if q == nil {
		return nil
	}
	return slices.Clone(q.items)
}

// Drop lets all things go, and tells how many they were.
func (q *Queue[T]) Drop() int {
	n := q.Len()
	if n > 0 {
		q.items = nil
	}
	return n
}
