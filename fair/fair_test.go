package fair

import (
	"math"
	"strconv"
	"strings"
	"testing"

	"belfry/api"
)

// set gives tenants weights.
func set(t *testing.T, s *Sched, tenant string, weight int) {
	t.Helper()
	if e := s.Set(tenant, weight); e != api.OK {
		t.Fatalf("Set(%q, %d) = %d", tenant, weight, e)
	}
}

// push puts a job behind the others.
func push(t *testing.T, s *Sched, tenant string, id, cost int64) {
	t.Helper()
	if e := s.Push(tenant, api.Job{Id: id, Cost: cost}); e != api.OK {
		t.Fatalf("Push(%q, %d of cost %d) = %d", tenant, id, cost, e)
	}
}

// steps tells slots: whose job was served, its number, and a point if it is done; a - where there was none.
func steps(s *Sched, n int) string {
	var out []string
	for range n {
		tenant, j, done, ok := s.Step()
		switch {
		case ok && done:
			out = append(out, tenant+strconv.FormatInt(j.Id, 10)+".")
		case ok:
			out = append(out, tenant+strconv.FormatInt(j.Id, 10))
		case tenant != "" || j != (api.Job{}) || done:
			out = append(out, "?")
		default:
			out = append(out, "-")
		}
	}
	return strings.Join(out, " ")
}

// serves holds the next slots, and then one that serves nothing, against what they should be.
func serves(t *testing.T, s *Sched, want string) {
	t.Helper()
	if g := steps(s, len(strings.Fields(want))); g != want {
		t.Errorf("served: %s\nwant:   %s", g, want)
	}
}

// state is all that a scheduler tells of some tenants.
func state(s *Sched, tenants ...string) string {
	sum, n := s.Weights()
	out := strconv.Itoa(sum) + "/" + strconv.Itoa(n)
	for _, tenant := range tenants {
		out += " " + tenant + ":" + strconv.Itoa(s.Waiting(tenant)) + "," + strconv.FormatInt(s.Ahead(tenant), 10)
	}
	return out
}

// is holds what a scheduler tells against what it should be.
func is(t *testing.T, g, want string) {
	t.Helper()
	if g != want {
		t.Errorf("%s, want %s", g, want)
	}
}

// The chapter's example.
func TestExample(t *testing.T) {
	s := New()
	set(t, s, "a", 1)
	set(t, s, "b", 2)
	push(t, s, "a", 1, 2)
	push(t, s, "b", 2, 2)
	push(t, s, "b", 3, 2)
	serves(t, s, "a1 a1. b2 b2. b3 b3. - -")
}

// P20.2, P20.3: a nil scheduler.
func TestNilSched(t *testing.T) {
	var s *Sched
	if s.Set("a", 0) != api.ErrNil || s.Set("a", 1) != api.ErrNil || s.Push("a", api.Job{}) != api.ErrNil || s.Push("a", api.Job{Cost: 1}) != api.ErrNil {
		t.Error("a nil scheduler takes something")
	}
	is(t, steps(s, 2), "- -")
	is(t, state(s, "a", ""), "0/0 a:0,0 :0,0")
	if s.Drop() != 0 {
		t.Error("a nil scheduler had jobs")
	}
}

// P20.2: a new scheduler, and one that New did not make, have no tenants.
func TestEmpty(t *testing.T) {
	for _, s := range []*Sched{New(), {}} {
		is(t, state(s, "a", ""), "0/0 a:0,0 :0,0")
		is(t, steps(s, 2), "- -")
		if e := s.Push("", api.Job{Cost: 1}); e != api.ErrNone || s.Drop() != 0 {
			t.Errorf("Push = %d", e)
		}
		set(t, s, "", 3)
		push(t, s, "", 7, 1)
		serves(t, s, "7. -")
	}
}

// P20.2: weights that can be and that can not; ErrArg ahead of ErrQueue and of ErrFull.
func TestSetBounds(t *testing.T) {
	busy, full := New(), New()
	set(t, busy, "a", 2)
	push(t, busy, "a", 1, 2)
	for i := range api.MaxTenants {
		set(t, full, strconv.Itoa(i), 1)
	}
	for _, weight := range []int{0, -1, 17, math.MinInt, math.MaxInt} {
		for _, s := range []*Sched{New(), busy, full} {
			if e := s.Set("a", weight); e != api.ErrArg {
				t.Errorf("Set of the weight %d = %d", weight, e)
			}
		}
	}
	is(t, state(busy, "a"), "2/1 a:1,2")
	is(t, state(full), "16/16")
	s := New()
	for weight := 1; weight <= 16; weight++ {
		set(t, s, "a", weight)
		is(t, state(s), strconv.Itoa(weight)+"/1")
	}
}

// P20.2: MaxTenants tenants, of any text; one that is there is set again where there is no room for another.
func TestSetFull(t *testing.T) {
	s := New()
	for i := range api.MaxTenants - 2 {
		set(t, s, strconv.Itoa(i), 1)
	}
	set(t, s, "", 1)
	set(t, s, "\xff\x00", 1)
	if e := s.Set("a", 1); e != api.ErrFull {
		t.Errorf("Set of one too many = %d", e)
	}
	if e := s.Push("a", api.Job{Cost: 1}); e != api.ErrNone {
		t.Errorf("Push = %d", e)
	}
	is(t, state(s), "16/16")
	set(t, s, "\xff\x00", 9)
	is(t, state(s), "24/16")
	push(t, s, "3", 1, 1)
	if s.Set("3", 1) != api.ErrQueue || s.Set("a", 1) != api.ErrFull {
		t.Error("Set where there is no room")
	}
}

// P20.2: a tenant with jobs keeps its weight, also while its only job is served.
func TestSetBusy(t *testing.T) {
	s := New()
	set(t, s, "a", 2)
	push(t, s, "a", 1, 2)
	for range 2 {
		if e := s.Set("a", 3); e != api.ErrQueue {
			t.Errorf("Set of one that has jobs = %d", e)
		}
		is(t, state(s), "2/1")
		s.Step()
	}
	set(t, s, "a", 3)
	is(t, state(s), "3/1")
}

// P20.2: a tenant that is set begins at the clock, a new one, and one that was there ahead of the clock.
func TestSetBegins(t *testing.T) {
	begun := func(again bool) *Sched {
		s := New()
		set(t, s, "a", 1)
		set(t, s, "b", 1)
		push(t, s, "a", 1, 3) // from 0 to 3
		for i := range int64(5) {
			push(t, s, "b", 10+i, 1) // from 0, 1, 2, 3, 4
		}
		serves(t, s, "a1 a1 a1. b10. b11.") // the clock is 1
		if again {
			set(t, s, "a", 1)
		}
		push(t, s, "a", 2, 1)
		return s
	}
	serves(t, begun(false), "b12. a2. b13. b14. -")
	serves(t, begun(true), "a2. b12. b13. b14. -")
	s := begun(false)
	set(t, s, "c", 1)
	push(t, s, "c", 3, 1) // from 1
	serves(t, s, "c3. b12. a2. b13. b14. -")
}

// P20.2: Push's errors, in their order; a refused job changes nothing (P20.8).
func TestPushErrors(t *testing.T) {
	s := New()
	set(t, s, "a", 1)
	set(t, s, "b", 1)
	wrong := []int64{0, -1, 1001, math.MinInt64, math.MaxInt64}
	for _, tenant := range []string{"", "c", "A", "aa"} {
		for _, cost := range append(wrong, 1) {
			if e := s.Push(tenant, api.Job{Cost: cost}); e != api.ErrNone {
				t.Errorf("Push(%q) = %d", tenant, e)
			}
		}
	}
	for i := range int64(api.MaxQueue) {
		for _, cost := range wrong {
			if e := s.Push("a", api.Job{Cost: cost}); e != api.ErrArg {
				t.Errorf("Push of the cost %d = %d", cost, e)
			}
		}
		push(t, s, "a", i, 1)
	}
	for _, cost := range wrong {
		if e := s.Push("a", api.Job{Cost: cost}); e != api.ErrArg {
			t.Errorf("Push of the cost %d into a full queue = %d", cost, e)
		}
	}
	if e := s.Push("a", api.Job{Cost: 1000}); e != api.ErrQueue {
		t.Errorf("Push into a full queue = %d", e)
	}
	is(t, state(s, "a", "b"), "2/2 a:16,16 b:0,0")
	push(t, s, "b", 99, 1)
	serves(t, s, "a0. b99. a1. a2.")
	push(t, s, "a", 16, 1)
	push(t, s, "b", 98, 1) // from 2: the refused jobs did not move a's last end, nor the clock
	serves(t, s, "b98. a3. a4. a5. a6. a7. a8. a9. a10. a11. a12. a13. a14. a15. a16. -")
}

// P20.2: the job that is served counts in its queue until it is done.
func TestServedCounts(t *testing.T) {
	s := New()
	set(t, s, "a", 1)
	for i := range int64(api.MaxQueue) {
		push(t, s, "a", i, 3)
	}
	is(t, state(s, "a"), "1/1 a:16,48")
	for n := int64(47); n >= 46; n-- {
		s.Step()
		is(t, state(s, "a"), "1/1 a:16,"+strconv.FormatInt(n, 10))
		if e := s.Push("a", api.Job{Cost: 1}); e != api.ErrQueue {
			t.Errorf("Push = %d", e)
		}
	}
	s.Step()
	is(t, state(s, "a"), "1/1 a:15,45")
	push(t, s, "a", 99, 1000)
	is(t, state(s, "a"), "1/1 a:16,1045")
}

// P20.3: the job that is told is that which was pushed, whatever its number, slot by slot.
func TestJobs(t *testing.T) {
	s := New()
	set(t, s, "a", 16)
	for _, j := range []api.Job{{Id: math.MinInt64, Cost: 1}, {Id: math.MaxInt64, Cost: 1000}, {Id: 0, Cost: 2}, {Id: 0, Cost: 2}} {
		if e := s.Push("a", j); e != api.OK {
			t.Fatalf("Push = %d", e)
		}
		is(t, state(s, "a"), "16/1 a:1,"+strconv.FormatInt(j.Cost, 10))
		for n := j.Cost - 1; n >= 0; n-- {
			tenant, g, done, ok := s.Step()
			if tenant != "a" || g != j || done != (n == 0) || !ok || s.Ahead("a") != n {
				t.Fatalf("Step = %q, %v, %v, %v", tenant, g, done, ok)
			}
		}
	}
}

// Words: of several with one start, the tenant whose name is least, byte by byte, whichever came first.
func TestTies(t *testing.T) {
	s := New()
	for _, tenant := range []string{"b", "a", "é", "ab", "", "B", "\xff"} {
		set(t, s, tenant, 1)
	}
	for i, tenant := range []string{"\xff", "b", "é", "B", "ab", "a", ""} {
		push(t, s, tenant, int64(i), 1)
	}
	serves(t, s, "6. B3. a5. ab4. b1. é2. \xff0. -")
}

// Words: shares by weights, and no other job ahead of the one that is served, though it would start earlier.
func TestWeights(t *testing.T) {
	s := New()
	set(t, s, "a", 1)
	set(t, s, "b", 3)
	for i := range int64(3) {
		push(t, s, "a", i, 1) // from 0, 1, 2
	}
	for i := range int64(7) {
		push(t, s, "b", i, 1) // from 0, 1/3, 2/3, ..
	}
	serves(t, s, "a0. b0. b1. b2. a1. b3. b4. b5. a2. b6. -")
	push(t, s, "b", 1, 3)
	serves(t, s, "b1")
	push(t, s, "a", 1, 1)
	serves(t, s, "b1 b1. a1. -")
	is(t, state(s, "a", "b"), "4/2 a:0,0 b:0,0")
}

// Words: what a job's end is, at every weight: another one of the weight 1 comes ahead of the tenant's second job, if it starts earlier.
func TestEnds(t *testing.T) {
	for weight := int64(1); weight <= MaxWeight; weight++ {
		for cost := int64(1); cost <= 20; cost++ {
			s := New()
			set(t, s, "b", int(weight))
			set(t, s, "a", 1)
			set(t, s, "c", 1)
			push(t, s, "b", 1, cost)
			push(t, s, "b", 2, 1) // from cost / weight
			for i := range int64(10) {
				push(t, s, "a", i, 1) // from i
				push(t, s, "c", i, 1)
			}
			var order []string
			for s.Waiting("b") > 0 {
				tenant, _, done, _ := s.Step()
				if done {
					order = append(order, tenant)
				}
			}
			var at, behind int64 // how many of a and of c are served ahead of b's second job
			for _, tenant := range order {
				switch tenant {
				case "a":
					at++
				case "c":
					behind++
				}
			}
			first, last := min(cost/weight+1, 10), min((cost+weight-1)/weight, 10)
			if at != first || behind != last {
				t.Errorf("weight %d, cost %d: %d of a and %d of c, want %d and %d", weight, cost, at, behind, first, last)
			}
		}
	}
}

// Words: when no job is left, the clock and all last ends are 0 again.
func TestRest(t *testing.T) {
	for _, drop := range []bool{false, true} {
		s := New()
		set(t, s, "a", 1)
		set(t, s, "b", 1)
		set(t, s, "c", 1)
		push(t, s, "b", 1, 5) // to 5
		push(t, s, "a", 1, 2) // to 2
		push(t, s, "a", 2, 2)
		if drop {
			serves(t, s, "a1 a1. b1 b1")
			if n := s.Drop(); n != 2 {
				t.Errorf("Drop = %d", n)
			}
			is(t, state(s, "a", "b", "c"), "3/3 a:0,0 b:0,0 c:0,0")
			if s.Drop() != 0 {
				t.Error("Drop of none")
			}
			is(t, steps(s, 1), "-")
		} else {
			serves(t, s, "a1 a1. b1 b1 b1 b1 b1. a2 a2.")
		}
		push(t, s, "c", 1, 1)
		push(t, s, "b", 1, 1)
		push(t, s, "a", 1, 1)
		push(t, s, "a", 2, 1)
		serves(t, s, "a1. b1. c1. a2. - -")
	}
}

// Words: the clock is the start of the job that is served: who comes then starts there, and not at its last end if that is earlier.
func TestClock(t *testing.T) {
	s := New()
	set(t, s, "a", 1)
	set(t, s, "b", 1)
	set(t, s, "c", 1)
	push(t, s, "a", 1, 1) // from 0 to 1
	for i := range int64(6) {
		push(t, s, "b", i, 1) // from 0, 1, ..
	}
	serves(t, s, "a1. b0. b1. b2. b3.")
	push(t, s, "a", 2, 1) // from 3
	push(t, s, "c", 1, 2) // from 3 to 5
	push(t, s, "c", 2, 1) // from 5
	push(t, s, "a", 3, 1) // from 4
	push(t, s, "a", 4, 1) // from 5
	serves(t, s, "a2. c1 c1. a3. b4. a4. b5. c2. -")
}

// P20.3: Drop lets the job go that is served, and its slots with it.
func TestDropServed(t *testing.T) {
	s := New()
	set(t, s, "a", 1)
	push(t, s, "a", 1, 5)
	serves(t, s, "a1 a1")
	if n := s.Drop(); n != 1 || s.Ahead("a") != 0 {
		t.Errorf("Drop = %d, %d", n, s.Ahead("a"))
	}
	set(t, s, "a", 2)
	push(t, s, "a", 2, 3)
	is(t, state(s, "a"), "2/1 a:1,3")
	serves(t, s, "a2 a2 a2. -")
}
