package tenants

import (
	"math/rand"
	"slices"
	"strconv"
	"testing"

	"belfry/api"
)

// told is a roll's tenants and what they have, as one text.
func told(r *Roll[int]) string {
	s := ""
	for name, v := range r.All() {
		s += name + "=" + strconv.Itoa(*v) + " "
	}
	return s
}

// The names' order is that of their bytes; any text is a name, the empty one too.
func TestOrder(t *testing.T) {
	var r Roll[int]
	for i, name := range []string{"b", "a", "", "\xff", "ab", "B", "é", "a\x00", "a"} {
		if e := r.Put(name, i); e != api.OK {
			t.Errorf("Put(%q) = %d", name, e)
		}
	}
	if g := told(&r); g != "=2 B=5 a=8 a\x00=7 ab=4 b=0 é=6 \xff=3 " || r.Len() != 8 {
		t.Errorf("%q, %d", g, r.Len())
	}
	for name := range r.All() {
		if name == "a" {
			break
		}
	}
}

// There is room for MaxTenants; one that is there is changed where there is no room for another.
func TestRoom(t *testing.T) {
	var r Roll[int]
	for i := range api.MaxTenants {
		if e := r.Put(strconv.Itoa(i), i); e != api.OK {
			t.Fatalf("Put = %d", e)
		}
	}
	was := told(&r)
	if e := r.Put("x", 1); e != api.ErrFull || told(&r) != was {
		t.Errorf("Put of one too many = %d: %s", e, told(&r))
	}
	if e := r.Put("3", 33); e != api.OK || r.Len() != api.MaxTenants {
		t.Errorf("Put of one that is there = %d", e)
	}
	if v, e := r.Find("3"); e != api.OK || *v != 33 {
		t.Errorf("Find = %v, %d", v, e)
	}
	if e := r.Drop("5"); e != api.OK || r.Put("x", 1) != api.OK || r.Put("5", 1) != api.ErrFull {
		t.Errorf("Drop = %d", e)
	}
}

// One that is not there is found nowhere, and can not go.
func TestNone(t *testing.T) {
	var r Roll[int]
	r.Put("a", 1)
	for _, name := range []string{"", "b", "A", "aa"} {
		if v, e := r.Find(name); v != nil || e != api.ErrNone {
			t.Errorf("Find(%q) = %v, %d", name, v, e)
		}
		if e := r.Drop(name); e != api.ErrNone || r.Len() != 1 {
			t.Errorf("Drop(%q) = %d", name, e)
		}
	}
}

// A copy is apart: what is changed, put or dropped in one is not in the other.
func TestCopy(t *testing.T) {
	var r Roll[int]
	r.Put("a", 1)
	r.Put("b", 2)
	c := r.Copy()
	v, _ := r.Find("a")
	*v = 9
	r.Drop("b")
	if g := told(&c); g != "a=1 b=2 " {
		t.Errorf("the copy: %s", g)
	}
	c.Put("c", 3)
	c.Put("a", 4)
	if g := told(&r); g != "a=9 " {
		t.Errorf("the first one: %s", g)
	}
}

// A roll is as a map whose names are sorted.
func TestAsAMap(t *testing.T) {
	x := rand.New(rand.NewSource(1))
	var r Roll[int]
	m := map[string]int{}
	for i := range 5000 {
		name := strconv.Itoa(x.Intn(24))
		if x.Intn(3) == 0 {
			_, there := m[name]
			delete(m, name)
			if e := r.Drop(name); (e == api.OK) != there {
				t.Fatalf("Drop = %d", e)
			}
			continue
		}
		_, there := m[name]
		room := there || len(m) < api.MaxTenants
		if room {
			m[name] = i
		}
		if e := r.Put(name, i); (e == api.OK) != room {
			t.Fatalf("Put = %d", e)
		}
		var names []string
		for name, v := range r.All() {
			names = append(names, name)
			if m[name] != *v {
				t.Fatalf("%s has %d, want %d", name, *v, m[name])
			}
		}
		if len(names) != len(m) || !slices.IsSorted(names) {
			t.Fatalf("%v", names)
		}
	}
}
