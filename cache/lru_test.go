package cache

import (
	"math"
	"math/rand"
	"slices"
	"strings"
	"testing"
)

// order holds an LRU's keys against what they should be.
func order(t *testing.T, l *LRU[string, int], want string) {
	t.Helper()
	if g := strings.Join(l.Keys(), " "); g != want || l.Len() != len(strings.Fields(want)) {
		t.Errorf("%s (%d), want %s", g, l.Len(), want)
	}
}

// P22.1: an LRU that can not be, a nil one, and one that NewLRU did not make.
func TestNilLRU(t *testing.T) {
	all := []*LRU[string, int]{nil, {}}
	for _, most := range []int{0, -1, math.MinInt} {
		l := NewLRU[string, int](most)
		if l != nil {
			t.Errorf("NewLRU(%d) is an LRU", most)
		}
		all = append(all, l)
	}
	for _, l := range all {
		for range 2 {
			if k, gone := l.Put("a", 1); k != "" || gone {
				t.Errorf("Put = %q, %v", k, gone)
			}
			if v, ok := l.Get("a"); v != 0 || ok || l.Del("a") {
				t.Errorf("Get = %d, %v", v, ok)
			}
			order(t, l, "")
		}
	}
}

// P22.1: a new one has nothing.
func TestEmptyLRU(t *testing.T) {
	l := NewLRU[string, int](3)
	order(t, l, "")
	if v, ok := l.Get("a"); v != 0 || ok || l.Del("a") {
		t.Errorf("Get = %d, %v", v, ok)
	}
}

// P22.1: what is put, or asked for, is the first; the last one goes where there is no room; a key that is put again makes no room less.
func TestLRU(t *testing.T) {
	l := NewLRU[string, int](3)
	for i, k := range []string{"a", "b", "c"} {
		if x, gone := l.Put(k, i); x != "" || gone {
			t.Errorf("Put = %q, %v", x, gone)
		}
	}
	order(t, l, "c b a")
	if v, ok := l.Get("a"); v != 0 || !ok {
		t.Errorf("Get = %d, %v", v, ok)
	}
	order(t, l, "a c b")
	if x, gone := l.Put("b", 9); x != "" || gone {
		t.Errorf("Put of one that is there = %q, %v", x, gone)
	}
	order(t, l, "b a c")
	if x, gone := l.Put("", 5); x != "c" || !gone || l.Len() != 3 {
		t.Errorf("Put of one too many = %q, %v", x, gone)
	}
	if v, ok := l.Get("c"); v != 0 || ok || l.Del("c") {
		t.Errorf("Get of one that went = %d, %v", v, ok)
	}
	if v, ok := l.Get("b"); v != 9 || !ok {
		t.Errorf("Get = %d, %v", v, ok)
	}
	if !slices.Equal(l.Keys(), []string{"b", "", "a"}) {
		t.Errorf("%q", l.Keys())
	}
	l.Put("a", 1)
	if x, gone := l.Put("d", 6); x != "" || !gone { // the empty key went
		t.Errorf("Put = %q, %v", x, gone)
	}
	order(t, l, "d a b")
}

// P22.1: what is deleted makes room; of what is not there nothing changes.
func TestDel(t *testing.T) {
	l := NewLRU[string, int](3)
	for i, k := range []string{"a", "b", "c"} {
		l.Put(k, i)
	}
	if !l.Del("b") || l.Del("b") || l.Del("x") {
		t.Error("Del")
	}
	order(t, l, "c a")
	if x, gone := l.Put("b", 7); x != "" || gone {
		t.Errorf("Put = %q, %v", x, gone)
	}
	order(t, l, "b c a")
	if !l.Del("a") || !l.Del("b") || !l.Del("c") {
		t.Error("Del")
	}
	order(t, l, "")
	l.Put("z", 1)
	order(t, l, "z")
}

// P22.1: room for one, and room for very many, which takes no memory ahead of them.
func TestRoomLRU(t *testing.T) {
	one := NewLRU[string, int](1)
	one.Put("a", 1)
	if x, gone := one.Put("b", 2); x != "a" || !gone {
		t.Errorf("Put = %q, %v", x, gone)
	}
	if x, gone := one.Put("b", 3); x != "" || gone {
		t.Errorf("Put = %q, %v", x, gone)
	}
	order(t, one, "b")
	many := NewLRU[int, struct{}](math.MaxInt)
	for i := range 100000 {
		if k, gone := many.Put(i, struct{}{}); k != 0 || gone {
			t.Fatalf("Put = %d, %v", k, gone)
		}
	}
	for i := range 100000 {
		if _, ok := many.Get(i); !ok {
			t.Fatalf("%d is not there", i)
		}
	}
	if k := many.Keys(); len(k) != 100000 || k[0] != 99999 || k[99999] != 0 {
		t.Errorf("%d keys", len(k))
	}
}

// Rule 4: what is written into an answer of Keys, or appended to it, is in no later answer; an answer stays as it is.
func TestKeysIsApart(t *testing.T) {
	l := NewLRU[string, int](9)
	for i, k := range []string{"a", "b", "c"} {
		l.Put(k, i)
	}
	keys := l.Keys()
	if cap(keys) != 3 {
		t.Errorf("there is room for %d behind three keys", cap(keys))
	}
	keys[0] = "x"
	_ = append(keys, "y")
	_ = append(keys[:1], "z")
	order(t, l, "c b a")
	l.Put("d", 4)
	l.Get("a")
	if !slices.Equal(keys, []string{"x", "z", "a"}) {
		t.Errorf("an answer changed: %q", keys)
	}
	order(t, l, "a d c b")
}

// P1: keys that are not the same as themselves: nobody finds them, and they go in their turn.
func TestNoNumbers(t *testing.T) {
	l := NewLRU[float64, int](2)
	for i := range 5 {
		if k, gone := l.Put(math.NaN(), i); gone != (i >= 2) || gone && k == k || !gone && k != 0 {
			t.Errorf("Put = %v, %v", k, gone)
		}
	}
	if v, ok := l.Get(math.NaN()); v != 0 || ok || l.Del(math.NaN()) || l.Len() != 2 || len(l.Keys()) != 2 {
		t.Errorf("Get = %d, %v", v, ok)
	}
	l.Put(1, 1)
	l.Put(2, 2)
	if !slices.Equal(l.Keys(), []float64{2, 1}) || len(l.found) != 2 {
		t.Errorf("%v", l.Keys())
	}
	l.Put(0, 5)
	if v, ok := l.Get(math.Copysign(0, -1)); v != 5 || !ok {
		t.Errorf("Get = %d, %v", v, ok)
	}
}

// P1: keys that can not be compared at all make no call panic; others beside them are found.
func TestNoKeys(t *testing.T) {
	type pair struct{ a, b any }
	wrong := []any{[]int{1}, map[string]int{}, func() {}, pair{1, []int{}}, [1]any{[]int{}}, math.NaN(), pair{math.NaN(), []int{}}}
	for _, k := range wrong {
		l := NewLRU[any, int](2)
		if _, ok := l.Get(k); ok || l.Del(k) {
			t.Errorf("%T is there", k)
		}
		l.Put("a", 1)
		if x, gone := l.Put(k, 2); x != nil || gone || l.Len() != 2 {
			t.Errorf("Put of a %T = %v, %v", k, x, gone)
		}
		if _, ok := l.Get(k); ok || l.Del(k) || len(l.Keys()) != 2 {
			t.Errorf("a %T is found", k)
		}
		if v, ok := l.Get("a"); v != 1 || !ok {
			t.Errorf("Get = %d, %v", v, ok)
		}
		if _, gone := l.Put(pair{1, "x"}, 3); !gone || l.Len() != 2 || !slices.Equal(l.Keys(), []any{pair{1, "x"}, "a"}) {
			t.Errorf("%v", l.Keys())
		}
	}
}

// P22.1: an LRU is as a list of pairs, the first one first.
func TestLRUModel(t *testing.T) {
	type pair struct{ k, v int }
	for seed := range int64(200) {
		r := rand.New(rand.NewSource(seed))
		most, keys := 1+r.Intn(10), 1+r.Intn(16)
		l := NewLRU[int, int](most)
		var model []pair
		take := func(k int) (int, bool) {
			at := slices.IndexFunc(model, func(p pair) bool { return p.k == k })
			if at < 0 {
				return 0, false
			}
			v := model[at].v
			model = slices.Delete(model, at, at+1)
			return v, true
		}
		for i := range 300 {
			k := 1 + r.Intn(keys)
			switch r.Intn(5) {
			case 0, 1:
				w, there := take(k)
				if there {
					model = slices.Insert(model, 0, pair{k, w})
				}
				if v, ok := l.Get(k); v != w || ok != there {
					t.Fatalf("seed %d: Get = %d, %v, want %d, %v", seed, v, ok, w, there)
				}
			case 2, 3:
				take(k)
				model = slices.Insert(model, 0, pair{k, i})
				want := 0
				if len(model) > most {
					want = model[most].k
					model = model[:most]
				}
				if x, gone := l.Put(k, i); x != want || gone != (want != 0) {
					t.Fatalf("seed %d: Put = %d, %v, want %d", seed, x, gone, want)
				}
			case 4:
				_, there := take(k)
				if l.Del(k) != there {
					t.Fatalf("seed %d: Del, want %v", seed, there)
				}
			}
			var want []int
			for _, p := range model {
				want = append(want, p.k)
			}
			if !slices.Equal(l.Keys(), want) || l.Len() != len(want) || len(l.found) != len(want) {
				t.Fatalf("seed %d: %v, want %v", seed, l.Keys(), want)
			}
		}
	}
}
