package fair

import (
	"math"
	"math/rand"
	"slices"
	"testing"

	"belfry/api"
)

// P20.1: a queue that can not be, and a nil queue.
func TestNilQueue(t *testing.T) {
	for _, most := range []int{0, -1, math.MinInt} {
		q := NewQueue[string](most)
		if q != nil {
			t.Errorf("NewQueue(%d) is a queue", most)
		}
		if e := q.Push("x"); e != api.ErrNil {
			t.Errorf("Push = %d", e)
		}
		if x, ok := q.Pop(); x != "" || ok {
			t.Errorf("Pop = %q, %v", x, ok)
		}
		if x, ok := q.Peek(); x != "" || ok {
			t.Errorf("Peek = %q, %v", x, ok)
		}
		if q.Len() != 0 || len(q.All()) != 0 || q.Drop() != 0 {
			t.Error("a nil queue has something")
		}
	}
}

// P20.1: the first that came goes first; there is room for so many, and for one more when one has gone.
func TestQueue(t *testing.T) {
	q := NewQueue[int](3)
	if x, ok := q.Pop(); x != 0 || ok {
		t.Errorf("Pop of none = %d, %v", x, ok)
	}
	if x, ok := q.Peek(); x != 0 || ok || q.Len() != 0 || len(q.All()) != 0 || q.Drop() != 0 {
		t.Errorf("Peek of none = %d, %v", x, ok)
	}
	for i := range 3 {
		if e := q.Push(i + 5); e != api.OK {
			t.Errorf("Push = %d", e)
		}
	}
	for range 2 {
		if e := q.Push(9); e != api.ErrQueue || !slices.Equal(q.All(), []int{5, 6, 7}) {
			t.Errorf("Push of one too many = %d: %v", e, q.All())
		}
		if x, ok := q.Peek(); x != 5 || !ok || q.Len() != 3 {
			t.Errorf("Peek = %d, %v", x, ok)
		}
	}
	if x, ok := q.Pop(); x != 5 || !ok || q.Len() != 2 {
		t.Errorf("Pop = %d, %v", x, ok)
	}
	if q.Push(8) != api.OK || q.Push(9) != api.ErrQueue || !slices.Equal(q.All(), []int{6, 7, 8}) {
		t.Errorf("%v", q.All())
	}
	if n := q.Drop(); n != 3 || q.Len() != 0 || q.Drop() != 0 {
		t.Errorf("Drop = %d", n)
	}
	for i := range 3 {
		if e := q.Push(i); e != api.OK {
			t.Errorf("Push behind Drop = %d", e)
		}
	}
}

// P20.1: room for very many takes no memory ahead of them; things of any type.
func TestQueueRoom(t *testing.T) {
	q := NewQueue[[]string](math.MaxInt)
	for range 1000 {
		if e := q.Push([]string{"x"}); e != api.OK {
			t.Fatalf("Push = %d", e)
		}
	}
	if q.Len() != 1000 {
		t.Errorf("Len = %d", q.Len())
	}
	one := NewQueue[struct{}](1)
	if one.Push(struct{}{}) != api.OK || one.Push(struct{}{}) != api.ErrQueue {
		t.Error("a queue with room for one")
	}
	var zero Queue[int]
	if e := zero.Push(1); e != api.ErrQueue || zero.Len() != 0 {
		t.Errorf("Push into a queue that has no room = %d", e)
	}
}

// Rule 4: what is written into an answer of All, or appended to it, is in no later answer.
func TestAllIsApart(t *testing.T) {
	q := NewQueue[int](9)
	for i := range 5 {
		q.Push(i)
	}
	q.Pop()
	l := q.All()
	l[0] = 99
	_ = append(l, 77)
	_ = append(l[:1], 66)
	q.Push(5)
	if !slices.Equal(q.All(), []int{1, 2, 3, 4, 5}) {
		t.Errorf("%v", q.All())
	}
	if !slices.Equal(l, []int{99, 66, 3, 4}) {
		t.Errorf("an answer changed: %v", l)
	}
}

// P20.1: a queue is as a list.
func TestQueueModel(t *testing.T) {
	for seed := range int64(100) {
		r := rand.New(rand.NewSource(seed))
		most := 1 + r.Intn(20)
		q := NewQueue[int](most)
		var l []int
		for i := range 400 {
			switch r.Intn(12) {
			case 0, 1, 2, 3, 4, 5:
				e := q.Push(i)
				if (e == api.ErrQueue) != (len(l) == most) {
					t.Fatalf("Push = %d of %d", e, most)
				}
				if e == api.OK {
					l = append(l, i)
				}
			case 6, 7, 8, 9, 10:
				x, ok := q.Pop()
				if ok != (len(l) > 0) || ok && x != l[0] || !ok && x != 0 {
					t.Fatalf("Pop = %d, %v of %v", x, ok, l)
				}
				l = l[min(1, len(l)):]
			case 11:
				if r.Intn(9) == 0 {
					if n := q.Drop(); n != len(l) {
						t.Fatalf("Drop = %d of %v", n, l)
					}
					l = nil
				}
			}
			x, ok := q.Peek()
			if q.Len() != len(l) || !slices.Equal(q.All(), l) || ok != (len(l) > 0) || ok && x != l[0] {
				t.Fatalf("%v, want %v", q.All(), l)
			}
		}
	}
}
