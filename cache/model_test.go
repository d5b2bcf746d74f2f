package cache

import (
	"math/rand"
	"slices"
	"strconv"
	"testing"

	"belfry/api"
)

// kept is an answer of the model.
type kept struct {
	tenant, key, stamp, text string
}

// model is a cache by the chapter's words: all answers in one list, that which was put or asked for last at its end.
type model struct {
	most   int
	all    []kept
	counts map[string]Count
}

func (m *model) take(tenant, key string) (kept, bool) {
	for i, x := range m.all {
		if x.tenant == tenant && x.key == key {
			m.all = slices.Delete(m.all, i, i+1)
			return x, true
		}
	}
	return kept{}, false
}

func (m *model) of(tenant string) []kept {
	var out []kept
	for _, x := range m.all {
		if x.tenant == tenant {
			out = append(out, x)
		}
	}
	return out
}

func (m *model) get(tenant, key, stamp string) (string, bool) {
	x, ok := m.take(tenant, key)
	n := m.counts[tenant]
	if ok = ok && x.stamp == stamp; ok {
		m.all = append(m.all, x)
		n.Hits++
	} else {
		x.text = ""
		n.Misses++
	}
	m.counts[tenant] = n
	return x.text, ok
}

func (m *model) put(x kept) api.Errno {
	if m.full(x.tenant) {
		return api.ErrFull
	}
	m.take(x.tenant, x.key)
	m.all = append(m.all, x)
	if l := m.of(x.tenant); len(l) > m.most {
		m.take(x.tenant, l[0].key)
	}
	return api.OK
}

func (m *model) forget(tenant string) int {
	n := len(m.of(tenant))
	m.all = slices.DeleteFunc(m.all, func(x kept) bool { return x.tenant == tenant })
	return n
}

// full tells whether so many tenants have answers that one more has no room.
func (m *model) full(tenant string) bool {
	seen := map[string]int{}
	for _, x := range m.all {
		seen[x.tenant]++
	}
	return seen[tenant] == 0 && len(seen) >= api.MaxTenants
}

// P22.2, P22.3, P22.6: a cache is as the model, call by call.
func TestModel(t *testing.T) {
	for seed := range int64(200) {
		r := rand.New(rand.NewSource(seed))
		tenants, keys := 1+r.Intn(20), 1+r.Intn(9)
		m := &model{most: 1 + r.Intn(6), counts: map[string]Count{}}
		c := New(m.most)
		for i := range 400 {
			x := kept{strconv.Itoa(r.Intn(tenants)), strconv.Itoa(r.Intn(keys)), strconv.Itoa(r.Intn(5) / 4), strconv.Itoa(i)}
			switch k := r.Intn(40); {
			case k < 16:
				s, ok := c.Get(x.tenant, x.key, x.stamp)
				if ws, wok := m.get(x.tenant, x.key, x.stamp); s != ws || ok != wok {
					t.Fatalf("seed %d: Get = %q, %v, want %q, %v", seed, s, ok, ws, wok)
				}
			case k < 38:
				if g, w := c.Put(x.tenant, x.key, x.stamp, x.text), m.put(x); g != w {
					t.Fatalf("seed %d: Put = %d, want %d", seed, g, w)
				}
			case k == 38:
				if g, w := c.Forget(x.tenant), m.forget(x.tenant); g != w {
					t.Fatalf("seed %d: Forget = %d, want %d", seed, g, w)
				}
			case r.Intn(5) == 0:
				if g := c.Clear(); g != len(m.all) {
					t.Fatalf("seed %d: Clear = %d, want %d", seed, g, len(m.all))
				}
				m.all = nil
			}
			if n := len(m.of(x.tenant)); c.Len(x.tenant) != n || n > m.most || c.Counts(x.tenant) != m.counts[x.tenant] {
				t.Fatalf("seed %d: %d answers, want %d; %v", seed, c.Len(x.tenant), n, c.Counts(x.tenant))
			}
		}
	}
}

// P22.4: what was put last of a key is there as long as less than most other keys were put or asked for since, and then no longer.
func TestAsLongAs(t *testing.T) {
	for _, most := range []int{1, 2, 7, api.MaxCache} {
		for others := range most + 1 {
			c := New(most)
			put(t, c, "a", "x", "0", "old")
			put(t, c, "a", "x", "1", "X")
			for round := range 3 {
				for i := range others {
					if round == 0 {
						put(t, c, "a", strconv.Itoa(i), "1", "Y")
					} else {
						has(t, c, "a", strconv.Itoa(i), "1", "Y")
					}
					c.Get("a", "none", "1")
				}
			}
			if others < most {
				has(t, c, "a", "x", "1", "X")
			} else {
				hasNot(t, c, "a", "x", "1")
			}
		}
	}
}

// told is all that a tenant is told while it asks by a seed of its own, and fifteen others by another one's.
func told(mine, others int64) []string {
	own, other := rand.New(rand.NewSource(mine)), rand.New(rand.NewSource(others))
	c := New(4)
	var out []string
	for i := range 300 {
		key, stamp := strconv.Itoa(own.Intn(6)), strconv.Itoa(own.Intn(8)/7)
		switch own.Intn(9) {
		case 0, 1, 2, 3:
			s, ok := c.Get("a", key, stamp)
			out = append(out, s+strconv.FormatBool(ok))
		case 4, 5, 6, 7:
			out = append(out, strconv.Itoa(int(c.Put("a", key, stamp, strconv.Itoa(i)))))
		case 8:
			if own.Intn(9) == 0 {
				out = append(out, strconv.Itoa(c.Forget("a")))
			}
		}
		n := c.Counts("a")
		out = append(out, strconv.Itoa(c.Len("a")), strconv.FormatInt(n.Hits, 10), strconv.FormatInt(n.Misses, 10))
		for range other.Intn(9) {
			tenant, key := strconv.Itoa(other.Intn(15)), strconv.Itoa(other.Intn(6))
			switch other.Intn(5) {
			case 0, 1, 2:
				c.Put(tenant, key, "1", "other")
			case 3:
				c.Get(tenant, key, strconv.Itoa(other.Intn(2)))
			case 4:
				c.Forget(tenant)
			}
		}
	}
	return out
}

// P22.5: what others put, ask and forget changes nothing of what a tenant is told.
func TestApart(t *testing.T) {
	for mine := range int64(30) {
		quiet := told(mine, 1000)
		for others := range int64(4) {
			if !slices.Equal(told(mine, 2000+others), quiet) {
				t.Fatalf("seed %d: what a tenant is told hangs on others", mine)
			}
		}
	}
}
