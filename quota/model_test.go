package quota

import (
	"math/big"
	"math/rand"
	"testing"

	"belfry/api"
)

// modelBucket is a bucket by the chapter's words: whole millionths, and a part of one.
type modelBucket struct {
	rate, burst, whole, part, last int64
	count                          Count
}

func (m *modelBucket) fill(now int64) {
	if now <= m.last {
		return
	}
	came := new(big.Int).Mul(big.NewInt(now-m.last), big.NewInt(m.rate))
	came.Add(came, big.NewInt(m.part))
	whole, part := came.QuoRem(came, big.NewInt(1000000000), new(big.Int))
	whole.Add(whole, big.NewInt(m.whole))
	m.last = now
	if whole.Cmp(big.NewInt(m.burst)) >= 0 {
		m.whole, m.part = m.burst, 0
		return
	}
	m.whole, m.part = whole.Int64(), part.Int64()
}

func (m *modelBucket) take(cost, now int64) api.Errno {
	m.fill(now)
	if m.whole < cost {
		m.count.Refused++
		return api.ErrQuota
	}
	m.whole -= cost
	m.count.Taken++
	m.count.Cost += cost
	return api.OK
}

func (m *modelBucket) give(cost, now int64) {
	m.fill(now)
	if m.whole += cost; m.whole >= m.burst {
		m.whole, m.part = m.burst, 0
	}
}

// next looks for the least time among all of them, halving.
func (m *modelBucket) next(cost, now int64) (int64, api.Errno) {
	m.fill(now)
	at := func(t int64) int64 {
		c := *m
		c.fill(t)
		return c.whole
	}
	switch {
	case cost > m.burst, m.whole < cost && m.rate == 0:
		return 0, api.ErrQuota
	case at(api.MaxTime) < cost:
		return 0, api.ErrArg
	}
	low, high := m.last, int64(api.MaxTime)
	for low < high {
		if mid := (low + high) / 2; at(mid) >= cost {
			high = mid
		} else {
			low = mid + 1
		}
	}
	return low, api.OK
}

// number is one below a bound, of any size.
func number(r *rand.Rand, bound int64) int64 {
	return r.Int63n(min(bound, 1<<(1+r.Intn(50))))
}

// anyBucket is a rate and a burst of any size, at times the greatest or the least.
func anyBucket(r *rand.Rand) (int64, int64) {
	rate, burst := number(r, MaxRate+1), 1+number(r, MaxBurst)
	switch r.Intn(8) {
	case 0:
		rate = MaxRate
	case 1:
		rate = 0
	case 2:
		burst = MaxBurst
	case 3:
		burst = 1
	}
	return rate, burst
}

// same holds what a table tells of a tenant against the model.
func same(t *testing.T, x *Table, tenant string, m *modelBucket, now int64) {
	t.Helper()
	m.fill(now)
	n, e := x.Tokens(tenant, now)
	if n != m.whole || e != api.OK {
		t.Fatalf("Tokens = %d, %d, want %d", n, e, m.whole)
	}
	if c, e := x.Counts(tenant); c != m.count || e != api.OK {
		t.Fatalf("Counts = %v, %d, want %v", c, e, m.count)
	}
}

// P19.1 to P19.3, P19.7: tables of several tenants are as the model's buckets, each apart; times go back at times.
func TestModel(t *testing.T) {
	for seed := range int64(300) {
		r := rand.New(rand.NewSource(seed))
		x := New()
		names := []string{"a", "b", "", "c"}
		all := map[string]*modelBucket{}
		var now int64
		for range 150 {
			if now += number(r, 1<<44); r.Intn(10) == 0 {
				now = number(r, now+1)
			}
			now = min(now, api.MaxTime)
			name := names[r.Intn(len(names))]
			m := all[name]
			if m == nil || r.Intn(60) == 0 {
				rate, burst := anyBucket(r)
				m = &modelBucket{rate: rate, burst: burst, whole: burst, last: now}
				all[name] = m
				if e := x.Set(name, rate, burst, now); e != api.OK {
					t.Fatalf("Set = %d", e)
				}
			}
			against(t, r, x, name, m, now)
			if r.Intn(20) == 0 {
				x = x.Copy()
			}
		}
		for name, m := range all {
			same(t, x, name, m, now)
		}
		if x.Len() != len(all) {
			t.Fatalf("Len = %d", x.Len())
		}
	}
}

// against asks one thing of a table and of the model.
func against(t *testing.T, r *rand.Rand, x *Table, name string, m *modelBucket, now int64) {
	t.Helper()
	cost := number(r, MaxBurst+1)
	if r.Intn(3) > 0 {
		cost = min(cost, number(r, m.burst+2))
	}
	switch r.Intn(5) {
	case 0, 1:
		if g, w := x.Take(name, cost, now), m.take(cost, now); g != w {
			t.Fatalf("Take(%d, %d) = %d, want %d", cost, now, g, w)
		}
	case 2:
		m.give(cost, now)
		if e := x.Give(name, cost, now); e != api.OK {
			t.Fatalf("Give = %d", e)
		}
	case 3:
		w, why := m.next(cost, now)
		if g, e := x.Next(name, cost, now); g != w || e != why {
			t.Fatalf("Next(%d, %d) = %d, %d, want %d, %d", cost, now, g, e, w, why)
		}
	case 4:
		same(t, x, name, m, now)
	}
}

// P19.4: of two tables with the same calls, one is asked for tokens between, as often as one likes.
func TestAskingChangesNothing(t *testing.T) {
	for seed := range int64(200) {
		r := rand.New(rand.NewSource(seed))
		rate, burst := anyBucket(r)
		quiet, asked := made(t, rate, burst), made(t, rate, burst)
		var now int64
		for range 60 {
			then := min(now+number(r, 1<<40), api.MaxTime)
			for range r.Intn(8) {
				asked.Tokens("a", now+r.Int63n(then-now+1))
			}
			now = then
			cost := number(r, burst+2)
			if q, a := quiet.Take("a", cost, now), asked.Take("a", cost, now); q != a {
				t.Fatalf("seed %d: Take = %d, and %d of one that is asked", seed, q, a)
			}
		}
		q, _ := quiet.Counts("a")
		counts(t, asked, q)
	}
}

// P19.5: what is taken in any time is at most the burst and what came in it.
func TestNeverMore(t *testing.T) {
	type taken struct{ at, cost int64 }
	for seed := range int64(200) {
		r := rand.New(rand.NewSource(seed))
		rate, burst := 1+number(r, MaxRate), 1+number(r, MaxBurst)
		x := made(t, rate, burst)
		var now int64
		var all []taken
		for range 40 {
			now += number(r, 1+2*second*burst/rate)
			cost := number(r, burst+1)
			if now <= api.MaxTime && x.Take("a", cost, now) == api.OK {
				all = append(all, taken{now, cost})
			}
		}
		for i := range all {
			sum := new(big.Int)
			for _, k := range all[i:] {
				sum.Add(sum, big.NewInt(k.cost))
				most := new(big.Int).Mul(big.NewInt(k.at-all[i].at), big.NewInt(rate))
				most.Quo(most, big.NewInt(second))
				most.Add(most, big.NewInt(burst))
				if sum.Cmp(most) > 0 {
					t.Fatalf("seed %d: %v are taken from %d to %d, at most %v may be", seed, sum, all[i].at, k.at, most)
				}
			}
		}
	}
}

// P19.6: at the time that Next tells the cost is taken, and a nanosecond earlier it is not.
func TestNextIsTheTime(t *testing.T) {
	told := 0
	for seed := range int64(3000) {
		r := rand.New(rand.NewSource(seed))
		rate, burst := anyBucket(r)
		x := made(t, rate, burst)
		x.Take("a", number(r, burst+1), number(r, 1000))
		x.Take("a", number(r, burst+1), number(r, 1<<40))
		now, cost := number(r, 1<<41), number(r, burst+1)
		at, e := x.Next("a", cost, now)
		if e != api.OK {
			continue
		}
		early := x.Copy()
		takes(t, x, cost, at, api.OK)
		if b, _ := early.buckets.Find("a"); at > b.upTo {
			told++
			takes(t, early, cost, at-1, api.ErrQuota)
		}
	}
	if told < 300 {
		t.Errorf("only %d times were later ones", told)
	}
}

// P19.7: what is asked of one tenant changes nothing of another one.
func TestApart(t *testing.T) {
	x := made(t, 7, 100)
	takes(t, x, 60, 10, api.OK)
	takes(t, x, 60, 10, api.ErrQuota)
	for _, name := range []string{"b", "", "aa", "A"} {
		x.Set(name, 9, 50, 0)
		x.Take(name, 50, 99*second)
		x.Take(name, 50, 99*second)
		x.Give(name, 10, 99*second)
		x.Next(name, 40, 99*second)
		x.Tokens(name, 100*second)
		x.Drop(name)
		x.Drop(name)
		x.Set(name, 9, 50, api.MaxTime)
	}
	counts(t, x, Count{Taken: 1, Refused: 1, Cost: 60})
	holds(t, x, 0, 40)
	holds(t, x, second+10, 47)
}
