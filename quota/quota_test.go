package quota

import (
	"math"
	"strconv"
	"testing"

	"belfry/api"
)

const second = 1000000000

// made is a table with a tenant a, whose bucket is so and full at 0.
func made(t *testing.T, rate, burst int64) *Table {
	t.Helper()
	x := New()
	if e := x.Set("a", rate, burst, 0); e != api.OK {
		t.Fatalf("Set(%d, %d) = %d", rate, burst, e)
	}
	return x
}

// holds asks what a holds at a time.
func holds(t *testing.T, x *Table, now, want int64) {
	t.Helper()
	if n, e := x.Tokens("a", now); n != want || e != api.OK {
		t.Errorf("Tokens at %d = %d, %d, want %d", now, n, e, want)
	}
}

// takes asks for a cost of a at a time.
func takes(t *testing.T, x *Table, cost, now int64, want api.Errno) {
	t.Helper()
	if e := x.Take("a", cost, now); e != want {
		t.Errorf("Take of %d at %d = %d, want %d", cost, now, e, want)
	}
}

// gives gives back to a at a time.
func gives(t *testing.T, x *Table, cost, now int64) {
	t.Helper()
	if e := x.Give("a", cost, now); e != api.OK {
		t.Errorf("Give of %d at %d = %d", cost, now, e)
	}
}

// next asks when a has a cost.
func next(t *testing.T, x *Table, cost, now, want int64, why api.Errno) {
	t.Helper()
	if n, e := x.Next("a", cost, now); n != want || e != why {
		t.Errorf("Next of %d at %d = %d, %d, want %d, %d", cost, now, n, e, want, why)
	}
}

// counts asks what became of a's requests.
func counts(t *testing.T, x *Table, want Count) {
	t.Helper()
	if c, e := x.Counts("a"); c != want || e != api.OK {
		t.Errorf("Counts = %v, %d, want %v", c, e, want)
	}
}

// noTimes are numbers that are no times.
func noTimes() []int64 {
	return []int64{-1, math.MinInt64, api.MaxTime + 1, math.MaxInt64}
}

// noCosts are numbers that are no costs.
func noCosts() []int64 {
	return []int64{-1, math.MinInt64, MaxBurst + 1, math.MaxInt64}
}

// The chapter's example.
func TestExample(t *testing.T) {
	x := made(t, 1000000, 2000000)
	takes(t, x, 2000000, 0, api.OK)
	takes(t, x, 1, 0, api.ErrQuota)
	takes(t, x, 500000, 500000000, api.OK)
	next(t, x, 1000000, 500000000, 1500000000, api.OK)
	counts(t, x, Count{Taken: 2, Refused: 1, Cost: 2500000})
}

// P19.1: a nil table, ahead of all other errors.
func TestNil(t *testing.T) {
	var x *Table
	for _, now := range []int64{0, -1} {
		if x.Set("a", now, now, now) != api.ErrNil || x.Take("a", now, now) != api.ErrNil || x.Give("a", now, now) != api.ErrNil {
			t.Error("a nil table takes something")
		}
		if n, e := x.Tokens("a", now); n != 0 || e != api.ErrNil {
			t.Errorf("Tokens = %d, %d", n, e)
		}
		if n, e := x.Next("a", now, now); n != 0 || e != api.ErrNil {
			t.Errorf("Next = %d, %d", n, e)
		}
	}
	if c, e := x.Counts("a"); c != (Count{}) || e != api.ErrNil {
		t.Errorf("Counts = %v, %d", c, e)
	}
	if x.Drop("a") != api.ErrNil || x.Len() != 0 || x.Copy() != nil {
		t.Error("a nil table tells something")
	}
}

// P19.1: a new table, and one that New did not make, have no tenants.
func TestEmpty(t *testing.T) {
	for _, x := range []*Table{New(), {}, New().Copy()} {
		if x.Len() != 0 || x.Drop("") != api.ErrNone || x.Take("", 0, 0) != api.ErrNone || x.Copy().Len() != 0 {
			t.Error("an empty table has a tenant")
		}
		if e := x.Set("", 0, 1, 0); e != api.OK || x.Len() != 1 {
			t.Errorf("Set = %d", e)
		}
	}
}

// P19.1: Set's bounds; ErrArg ahead of ErrFull; a refused Set changes nothing.
func TestSetBounds(t *testing.T) {
	for _, c := range []struct{ rate, burst, now int64 }{
		{0, 1, 0}, {MaxRate, MaxBurst, api.MaxTime}, {0, MaxBurst, 0}, {MaxRate, 1, 1},
	} {
		x := New()
		if e := x.Set("a", c.rate, c.burst, c.now); e != api.OK {
			t.Errorf("Set(%v) = %d", c, e)
		}
		holds(t, x, 0, c.burst)
	}
	full := New()
	for i := range api.MaxTenants {
		full.Set(strconv.Itoa(i), 1, 1, 0)
	}
	x := made(t, 0, 7)
	takes(t, x, 2, 0, api.OK)
	wrong := []struct{ rate, burst, now int64 }{
		{-1, 1, 0}, {MaxRate + 1, 1, 0}, {math.MinInt64, 1, 0}, {math.MaxInt64, 1, 0},
		{0, 0, 0}, {0, -1, 0}, {0, MaxBurst + 1, 0}, {0, math.MinInt64, 0}, {0, math.MaxInt64, 0},
	}
	for _, now := range noTimes() {
		wrong = append(wrong, struct{ rate, burst, now int64 }{1, 1, now})
	}
	for _, c := range wrong {
		if x.Set("a", c.rate, c.burst, c.now) != api.ErrArg || x.Set("b", c.rate, c.burst, c.now) != api.ErrArg || full.Set("a", c.rate, c.burst, c.now) != api.ErrArg {
			t.Errorf("Set(%v) is taken", c)
		}
	}
	holds(t, x, 0, 5)
	counts(t, x, Count{Taken: 1, Cost: 2})
	if x.Len() != 1 {
		t.Errorf("Len = %d", x.Len())
	}
}

// P19.1: MaxTenants tenants, of any text; one that is there is set again where there is no room for another.
func TestSetFull(t *testing.T) {
	x := New()
	for i := range api.MaxTenants - 3 {
		x.Set(strconv.Itoa(i), 1, 1, 0)
	}
	for _, name := range []string{"", "\xff\x00", "A b"} {
		if e := x.Set(name, 1, 1, 0); e != api.OK {
			t.Errorf("Set(%q) = %d", name, e)
		}
	}
	if e := x.Set("a", 1, 1, 0); e != api.ErrFull || x.Len() != api.MaxTenants {
		t.Errorf("Set of one too many = %d, %d", e, x.Len())
	}
	if e := x.Set("\xff\x00", 1, 9, 0); e != api.OK || x.Len() != api.MaxTenants {
		t.Errorf("Set of one that is there = %d, %d", e, x.Len())
	}
	if n, e := x.Tokens("\xff\x00", 0); n != 9 || e != api.OK {
		t.Errorf("Tokens = %d, %d", n, e)
	}
	if e := x.Drop(""); e != api.OK || x.Set("a", 1, 1, 0) != api.OK || x.Set("", 1, 1, 0) != api.ErrFull {
		t.Errorf("Drop = %d", e)
	}
}

// P19.1: Set again: full, counts 0, filled up to that time, also if that is an earlier one.
func TestSetAgain(t *testing.T) {
	x := made(t, 1000000, 2000000)
	takes(t, x, 2000000, 10*second, api.OK)
	takes(t, x, 2000000, 10*second, api.ErrQuota)
	if e := x.Set("a", 1000000, 3000000, 5*second); e != api.OK {
		t.Errorf("Set = %d", e)
	}
	counts(t, x, Count{})
	takes(t, x, 3000000, 0, api.OK)
	holds(t, x, 5*second, 0)
	holds(t, x, 6*second, 1000000)
}

// P19.2, P19.3: the errors of calls at a time, ErrArg ahead of ErrNone, and that they neither fill nor count.
func TestErrors(t *testing.T) {
	x := made(t, 1000000, 2000000)
	takes(t, x, 2000000, 0, api.OK)
	refused := func(tenant string, cost, now int64, want api.Errno) {
		t.Helper()
		if e := x.Take(tenant, cost, now); e != want {
			t.Errorf("Take(%q, %d, %d) = %d", tenant, cost, now, e)
		}
		if e := x.Give(tenant, cost, now); e != want {
			t.Errorf("Give(%q, %d, %d) = %d", tenant, cost, now, e)
		}
		if n, e := x.Next(tenant, cost, now); n != 0 || e != want {
			t.Errorf("Next(%q, %d, %d) = %d, %d", tenant, cost, now, n, e)
		}
	}
	for _, tenant := range []string{"a", "b"} {
		for _, now := range noTimes() {
			refused(tenant, 1, now, api.ErrArg)
			refused(tenant, -1, now, api.ErrArg)
			if n, e := x.Tokens(tenant, now); n != 0 || e != api.ErrArg {
				t.Errorf("Tokens(%q, %d) = %d, %d", tenant, now, n, e)
			}
		}
		for _, cost := range noCosts() {
			refused(tenant, cost, second, api.ErrArg)
		}
	}
	for _, tenant := range []string{"b", "", "A", "aa", "a "} {
		refused(tenant, 1, second, api.ErrNone)
		if n, e := x.Tokens(tenant, second); n != 0 || e != api.ErrNone {
			t.Errorf("Tokens(%q) = %d, %d", tenant, n, e)
		}
		if c, e := x.Counts(tenant); c != (Count{}) || e != api.ErrNone {
			t.Errorf("Counts(%q) = %v, %d", tenant, c, e)
		}
		if e := x.Drop(tenant); e != api.ErrNone {
			t.Errorf("Drop(%q) = %d", tenant, e)
		}
	}
	holds(t, x, 0, 0)
	counts(t, x, Count{Taken: 1, Cost: 2000000})
}

// P19.2: what is taken, at the edges of what there is.
func TestTake(t *testing.T) {
	x := made(t, 0, MaxBurst)
	takes(t, x, MaxBurst, 0, api.OK)
	takes(t, x, 0, 0, api.OK)
	takes(t, x, 1, api.MaxTime, api.ErrQuota)
	takes(t, x, MaxBurst, api.MaxTime, api.ErrQuota)
	counts(t, x, Count{Taken: 2, Refused: 2, Cost: MaxBurst})
	x = made(t, 0, 5)
	takes(t, x, 6, 0, api.ErrQuota)
	takes(t, x, MaxBurst, 0, api.ErrQuota)
	takes(t, x, 3, 0, api.OK)
	takes(t, x, 3, 0, api.ErrQuota)
	takes(t, x, 2, 0, api.OK)
	counts(t, x, Count{Taken: 2, Refused: 3, Cost: 5})
}

// P19.2: all that was taken is counted up to 2^62.
func TestCostsAtMost(t *testing.T) {
	x := made(t, 0, MaxBurst)
	b, _ := x.buckets.Find("a")
	b.count.Cost = 1<<62 - 5
	takes(t, x, 4, 0, api.OK)
	counts(t, x, Count{Taken: 1, Cost: 1<<62 - 1})
	takes(t, x, 1, 0, api.OK)
	counts(t, x, Count{Taken: 2, Cost: 1 << 62})
	takes(t, x, 900000000, 0, api.OK)
	counts(t, x, Count{Taken: 3, Cost: 1 << 62})
}

// P19.2: what is given back, up to the burst, and then no part; counts stay.
func TestGive(t *testing.T) {
	x := made(t, 1, 10)
	gives(t, x, 0, 0)
	gives(t, x, MaxBurst, 0)
	holds(t, x, 0, 10)
	takes(t, x, 10, 0, api.OK)
	gives(t, x, 4, 0)
	holds(t, x, 0, 4)
	gives(t, x, 5, second/2)
	holds(t, x, second/2, 9)
	holds(t, x, second-1, 9)
	gives(t, x, 1, second-1) // 10, and a part, which goes
	takes(t, x, 1, second-1, api.OK)
	holds(t, x, second, 9)
	holds(t, x, 2*second-2, 9)
	holds(t, x, 2*second-1, 10)
	counts(t, x, Count{Taken: 2, Cost: 11})
	takes(t, x, 10, 2*second-1, api.OK)
	gives(t, x, 9, 2*second-1)
	holds(t, x, 3*second-2, 9) // a part is kept by Give below the burst
	gives(t, x, 0, 3*second-2)
	holds(t, x, 3*second-1, 10)
}

// Words: parts are kept, however often one asks; a full bucket has none.
func TestParts(t *testing.T) {
	x := made(t, 3, 100)
	takes(t, x, 100, 0, api.OK)
	for now := int64(0); now <= second; now += second / 100 {
		holds(t, x, now, 3*now/second)
	}
	takes(t, x, 3, second, api.OK)
	holds(t, x, second+333333333, 0)
	holds(t, x, second+333333334, 1) // 2 parts beside it
	takes(t, x, 1, second+333333334, api.OK)
	holds(t, x, second+666666666, 0)
	holds(t, x, second+666666667, 1)
	x = made(t, 3, 1)
	takes(t, x, 1, 0, api.OK)
	holds(t, x, 333333334, 1) // full: the parts above go
	takes(t, x, 1, 333333334, api.OK)
	holds(t, x, 666666667, 0)
	holds(t, x, 666666668, 1)
	x = made(t, 3, 1)
	holds(t, x, second/2, 1) // full all the time
	takes(t, x, 1, second/2, api.OK)
	holds(t, x, second/2+333333333, 0)
	holds(t, x, second/2+333333334, 1)
}

// Words: the greatest rate and the longest time fill a bucket, and no more; a rate of 0 never does.
func TestFillEdges(t *testing.T) {
	x := made(t, MaxRate, MaxBurst)
	takes(t, x, MaxBurst, 0, api.OK)
	holds(t, x, 1, 1)
	holds(t, x, second-1, MaxBurst-1)
	holds(t, x, second, MaxBurst)
	takes(t, x, MaxBurst, second, api.OK)
	holds(t, x, api.MaxTime, MaxBurst)
	x = made(t, 1, MaxBurst)
	takes(t, x, MaxBurst, 0, api.OK)
	holds(t, x, api.MaxTime, api.MaxTime/second)
	x = made(t, 0, 3)
	takes(t, x, 2, 0, api.OK)
	holds(t, x, api.MaxTime, 1)
	for _, rate := range []int64{9, 9223, 9224, 16384, 16385, MaxRate} { // some products of rate and time are beyond 63 bits
		x = made(t, rate, 2)
		takes(t, x, 2, 0, api.OK)
		holds(t, x, api.MaxTime, 2)
	}
}

// Words: a time below the last one changes nothing, and what is there then counts.
func TestBack(t *testing.T) {
	x := made(t, 1000000, 10000000)
	takes(t, x, 10000000, 0, api.OK)
	holds(t, x, 4*second, 4000000)
	for _, now := range []int64{0, second, 4*second - 1, 4 * second} {
		holds(t, x, now, 4000000)
	}
	takes(t, x, 1000000, 0, api.OK)
	gives(t, x, 500000, second)
	holds(t, x, 4*second, 3500000)
	next(t, x, 3500000, 0, 4*second, api.OK)
	next(t, x, 4000000, second, 4*second+second/2, api.OK)
	holds(t, x, 5*second, 4500000)
}

// Words: each call at a time fills, those that are refused with ErrQuota too; and Next, where what it would tell is no time.
func TestWhoFills(t *testing.T) {
	for name, call := range map[string]func(x *Table) api.Errno{
		"Take":                func(x *Table) api.Errno { return x.Take("a", 0, second) },
		"Take, refused":       func(x *Table) api.Errno { return x.Take("a", 2000, second) },
		"Give":                func(x *Table) api.Errno { return x.Give("a", 0, second) },
		"Tokens":              func(x *Table) api.Errno { _, e := x.Tokens("a", second); return e },
		"Next":                func(x *Table) api.Errno { _, e := x.Next("a", 1, second); return e },
		"Next, of what comes": func(x *Table) api.Errno { _, e := x.Next("a", 3, second); return e },
		"Next, refused":       func(x *Table) api.Errno { _, e := x.Next("a", MaxBurst, second); return e },
	} {
		x := made(t, 2, 1000)
		takes(t, x, 1000, 0, api.OK)
		e := call(x)
		if n, _ := x.Tokens("a", 0); n != 2 {
			t.Errorf("behind %s (%d) there are %d", name, e, n)
		}
	}
	x := made(t, 1, MaxBurst)
	takes(t, x, MaxBurst, 0, api.OK)
	next(t, x, MaxBurst, 2*second, 0, api.ErrArg)
	holds(t, x, 0, 2)
}

// P19.3: the least time, its edges, and where there is none.
func TestNext(t *testing.T) {
	x := made(t, 3, 10)
	next(t, x, 0, 0, 0, api.OK)
	next(t, x, 10, 7, 7, api.OK)
	next(t, x, 10, api.MaxTime, api.MaxTime, api.OK)
	next(t, x, 11, 0, 0, api.ErrQuota)
	next(t, x, MaxBurst, 0, 0, api.ErrQuota)
	x = made(t, 3, 10)
	takes(t, x, 10, 0, api.OK)
	next(t, x, 0, 5, 5, api.OK)
	next(t, x, 1, 5, 333333334, api.OK)
	next(t, x, 2, 5, 666666667, api.OK)
	next(t, x, 3, 5, second, api.OK)
	next(t, x, 10, 5, 3333333334, api.OK)
	next(t, x, 3, second, second, api.OK)
	next(t, x, 3, second-1, second, api.OK)
	next(t, x, 11, 5, 0, api.ErrQuota)
	x = made(t, 0, 10)
	takes(t, x, 4, 0, api.OK)
	next(t, x, 6, 9, 9, api.OK)
	next(t, x, 7, 9, 0, api.ErrQuota)
	next(t, x, 11, 9, 0, api.ErrQuota)
	counts(t, x, Count{Taken: 1, Cost: 4})
}

// P19.3: the last time, and one that is none: ErrArg, behind ErrQuota.
func TestNextNoTime(t *testing.T) {
	x := made(t, 1, MaxBurst)
	takes(t, x, MaxBurst, 0, api.OK)
	last := int64(api.MaxTime / second)
	next(t, x, last, 0, last*second, api.OK)
	next(t, x, last+1, 0, 0, api.ErrArg)
	next(t, x, MaxBurst, 0, 0, api.ErrArg)
	x = made(t, 1, MaxBurst-1)
	takes(t, x, MaxBurst-1, 0, api.OK)
	next(t, x, MaxBurst, 0, 0, api.ErrQuota)
	x = New()
	x.Set("a", 1, 2, api.MaxTime-second)
	takes(t, x, 2, 0, api.OK)
	next(t, x, 1, 0, api.MaxTime, api.OK)
	next(t, x, 2, 0, 0, api.ErrArg)
	x.Set("a", 1, 2, api.MaxTime-second+1)
	takes(t, x, 2, 0, api.OK)
	next(t, x, 1, 0, 0, api.ErrArg)
	x.Set("a", MaxRate, 2, api.MaxTime)
	takes(t, x, 2, 0, api.OK)
	next(t, x, 1, 0, 0, api.ErrArg)
	next(t, x, 0, 0, api.MaxTime, api.OK)
}

// P19.3: a tenant that is dropped is gone, with its counts.
func TestDrop(t *testing.T) {
	x := made(t, 0, 5)
	x.Set("b", 0, 5, 0)
	takes(t, x, 5, 0, api.OK)
	if e := x.Drop("a"); e != api.OK || x.Len() != 1 || x.Drop("a") != api.ErrNone {
		t.Errorf("Drop = %d, %d", e, x.Len())
	}
	takes(t, x, 0, 0, api.ErrNone)
	if n, e := x.Tokens("b", 0); n != 5 || e != api.OK {
		t.Errorf("Tokens = %d, %d", n, e)
	}
	x.Set("a", 0, 7, 0)
	holds(t, x, 0, 7)
	counts(t, x, Count{})
}

// P19.3: a copy is as the table was, and apart from it.
func TestCopy(t *testing.T) {
	x := made(t, 3, 5)
	takes(t, x, 5, 0, api.OK)
	takes(t, x, 1, second/2, api.OK)
	takes(t, x, 1, second/2, api.ErrQuota)
	y := x.Copy()
	for range 2 {
		counts(t, y, Count{Taken: 2, Refused: 1, Cost: 6})
		holds(t, y, 0, 0)
		next(t, y, 1, 0, 666666667, api.OK)
		takes(t, x, 2, second, api.OK)
		gives(t, x, 5, second)
		x.Drop("a")
		x.Set("a", 1, 9, 9)
		x.Set("b", 1, 9, 9)
		if y.Len() != 1 {
			t.Errorf("Len = %d", y.Len())
		}
	}
	z := y.Copy()
	takes(t, z, 0, second, api.OK)
	z.Drop("a")
	counts(t, y, Count{Taken: 2, Refused: 1, Cost: 6})
	holds(t, y, 0, 0)
}
