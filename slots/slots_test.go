package slots

import (
	"math"
	"slices"
	"strconv"
	"strings"
	"testing"

	"belfry/api"
	"belfry/fair"
)

// modes are those that can be.
var modes = []int{Fair, Fixed}

// made is a table of tenants with the weight 1.
func made(t *testing.T, mode int, tenants ...string) *Table {
	t.Helper()
	x := New(mode)
	for _, tenant := range tenants {
		set(t, x, tenant, 1)
	}
	return x
}

func set(t *testing.T, x *Table, tenant string, weight int) {
	t.Helper()
	if e := x.Set(tenant, weight); e != api.OK {
		t.Fatalf("Set(%q, %d) = %d", tenant, weight, e)
	}
}

func push(t *testing.T, x *Table, tenant string, id, cost int64) {
	t.Helper()
	if e := x.Push(tenant, api.Job{Id: id, Cost: cost}); e != api.OK {
		t.Fatalf("Push(%q, %d of cost %d) = %d", tenant, id, cost, e)
	}
}

// steps tells slots: the number, whose it was, the job's number behind a colon where there was one, a point if it is done.
func steps(x *Table, n int) string {
	var out []string
	for range n {
		s := x.Step()
		text := strconv.FormatInt(s.Slot, 10) + s.Tenant
		switch {
		case s.Some:
			text += ":" + strconv.FormatInt(s.Job.Id, 10)
		case s.Job != (api.Job{}) || s.Done:
			text += "?"
		}
		if s.Done {
			text += "."
		}
		out = append(out, text)
	}
	return strings.Join(out, " ")
}

// serves holds the next slots against what they should be.
func serves(t *testing.T, x *Table, want string) {
	t.Helper()
	if g := steps(x, len(strings.Fields(want))); g != want {
		t.Errorf("served: %s\nwant:   %s", g, want)
	}
}

// state is all that a table tells, of some tenants.
func state(x *Table, tenants ...string) string {
	out := strconv.FormatInt(x.Slot(), 10) + " " + x.Turn() + " " + strings.Join(x.Tenants(), "|")
	for _, tenant := range tenants {
		n, e := x.Within(tenant, 1)
		out += " " + tenant + ":" + strconv.Itoa(x.Waiting(tenant)) + "," + strconv.FormatInt(x.Ahead(tenant), 10)
		out += "," + strconv.FormatInt(n, 10) + "/" + strconv.Itoa(int(e))
	}
	return out
}

func is(t *testing.T, g, want string) {
	t.Helper()
	if g != want {
		t.Errorf("%s, want %s", g, want)
	}
}

// within holds Within against what it should be.
func within(t *testing.T, x *Table, tenant string, cost, want int64, why api.Errno) {
	t.Helper()
	if n, e := x.Within(tenant, cost); n != want || e != why {
		t.Errorf("Within(%q, %d) = %d, %d, want %d, %d", tenant, cost, n, e, want, why)
	}
}

// The chapter's example.
func TestExample(t *testing.T) {
	x := made(t, Fixed, "a", "b")
	within(t, x, "b", 2, 4, api.OK)
	push(t, x, "b", 7, 2)
	serves(t, x, "0a 1b:7 2a 3b:7. 4a 5b")
}

// P21.1: modes that can not be, and a nil table.
func TestNil(t *testing.T) {
	for _, mode := range []int{-1, 2, math.MinInt, math.MaxInt} {
		x := New(mode)
		if x != nil {
			t.Fatalf("New(%d) is a table", mode)
		}
		if x.Set("a", 0) != api.ErrNil || x.Set("a", 1) != api.ErrNil || x.Push("a", api.Job{}) != api.ErrNil || x.Push("a", api.Job{Cost: 1}) != api.ErrNil {
			t.Error("a nil table takes something")
		}
		within(t, x, "a", 1, 0, api.ErrNil)
		within(t, x, "a", 0, 0, api.ErrNil)
		for range 2 {
			if s := x.Step(); s != (Served{}) || x.Drop() != 0 {
				t.Errorf("Step = %v", s)
			}
		}
		is(t, state(x, "a", ""), "0   a:0,0,0/2 :0,0,0/2")
	}
}

// P21.1, P21.2: a new table, and one that New did not make: no tenants; its slots go on.
func TestEmpty(t *testing.T) {
	for _, x := range []*Table{New(Fair), New(Fixed), {}} {
		is(t, state(x, "a", ""), "0   a:0,0,0/5 :0,0,0/5")
		serves(t, x, "0 1 2")
		if e := x.Push("", api.Job{Cost: 1}); e != api.ErrNone || x.Drop() != 0 {
			t.Errorf("Push = %d", e)
		}
		within(t, x, "", 0, 0, api.ErrNone)
		set(t, x, "", 3)
		push(t, x, "", 7, 1)
		serves(t, x, "3:7. 4 5")
	}
}

// P21.1: weights that can be and that can not; ErrArg ahead of ErrQueue (of both kinds) and of ErrFull.
func TestSetBounds(t *testing.T) {
	for _, mode := range modes {
		busy, full := made(t, mode, "a"), made(t, mode)
		push(t, busy, "a", 1, 2)
		for i := range api.MaxTenants {
			set(t, full, "t"+strconv.Itoa(i), 1)
		}
		was := state(busy, "a", "b") + state(full, "t3", "b")
		for _, weight := range []int{0, -1, 17, math.MinInt, math.MaxInt} {
			for _, x := range []*Table{New(mode), busy, full} {
				for _, tenant := range []string{"a", "b"} {
					if e := x.Set(tenant, weight); e != api.ErrArg {
						t.Errorf("mode %d: Set of the weight %d = %d", mode, weight, e)
					}
				}
			}
		}
		is(t, state(busy, "a", "b")+state(full, "t3", "b"), was)
		x := New(mode)
		for weight := 1; weight <= 16; weight++ {
			set(t, x, "a", weight)
			is(t, strings.Join(x.Tenants(), "|"), "a")
		}
	}
}

// P21.1: a tenant with jobs is not set again, until they are done.
func TestSetBusy(t *testing.T) {
	for _, mode := range modes {
		x := made(t, mode, "a", "b")
		push(t, x, "a", 1, 2)
		for range 2 {
			was := state(x, "a", "b")
			if e := x.Set("a", 3); e != api.ErrQueue {
				t.Errorf("mode %d: Set = %d", mode, e)
			}
			is(t, state(x, "a", "b"), was)
			set(t, x, "b", 2) // which has none, and was there
			x.Step()
		}
		x.Step()
		if x.Waiting("a") != 0 {
			t.Fatalf("mode %d: a still waits", mode)
		}
		set(t, x, "a", 3)
	}
}

// P21.1: in fixed turns nobody comes in while a job is left, whoever's; by weights one may.
func TestSetLeft(t *testing.T) {
	x := made(t, Fixed, "a", "b")
	push(t, x, "b", 1, 2)
	for range 4 {
		was := state(x, "a", "b", "c")
		for _, tenant := range []string{"c", "", "ab"} {
			if e := x.Set(tenant, 1); e != api.ErrQueue {
				t.Errorf("Set(%q) = %d", tenant, e)
			}
		}
		is(t, state(x, "a", "b", "c"), was)
		x.Step()
	}
	set(t, x, "c", 1)
	push(t, x, "c", 2, 9)
	if e := x.Set("d", 1); e != api.ErrQueue || x.Drop() != 1 {
		t.Errorf("Set = %d", e)
	}
	set(t, x, "d", 1)
	y := made(t, Fair, "a", "b")
	push(t, y, "b", 1, 2)
	set(t, y, "c", 1)
	is(t, strings.Join(y.Tenants(), "|"), "a|b|c")
}

// P21.1: MaxTenants tenants, of any text; of one too many it is ErrFull, and ErrQueue, which is named ahead of it, where a job is left in fixed turns.
func TestSetFull(t *testing.T) {
	for _, mode := range modes {
		x := New(mode)
		for i := range api.MaxTenants - 2 {
			set(t, x, "t"+strconv.Itoa(i), 1)
		}
		set(t, x, "", 1)
		set(t, x, "\xff\x00", 1)
		was := state(x, "a", "t3")
		if e := x.Set("a", 1); e != api.ErrFull {
			t.Errorf("mode %d: Set of one too many = %d", mode, e)
		}
		is(t, state(x, "a", "t3"), was)
		if e := x.Push("a", api.Job{Cost: 1}); e != api.ErrNone {
			t.Errorf("mode %d: Push = %d", mode, e)
		}
		set(t, x, "\xff\x00", 9)
		push(t, x, "t3", 1, 1)
		want := api.ErrFull
		if mode == Fixed {
			want = api.ErrQueue
		}
		if e := x.Set("a", 1); e != want || x.Set("t3", 1) != api.ErrQueue {
			t.Errorf("mode %d: Set where a job is left = %d", mode, e)
		}
		if len(x.Tenants()) != api.MaxTenants {
			t.Errorf("mode %d: %v", mode, x.Tenants())
		}
	}
}

// P21.1: jobs that can not be; ErrNone ahead of ErrArg, that ahead of ErrQueue; a refused job changes nothing.
func TestPushErrors(t *testing.T) {
	for _, mode := range modes {
		x := made(t, mode, "a", "b")
		for i := range int64(api.MaxQueue) {
			push(t, x, "a", i, 1)
		}
		was := state(x, "a", "b", "c")
		for _, cost := range []int64{0, -1, 1001, math.MinInt64, math.MaxInt64} {
			for tenant, want := range map[string]api.Errno{"a": api.ErrArg, "b": api.ErrArg, "c": api.ErrNone, "": api.ErrNone} {
				if e := x.Push(tenant, api.Job{Id: 1, Cost: cost}); e != want {
					t.Errorf("mode %d: Push(%q, of cost %d) = %d", mode, tenant, cost, e)
				}
			}
		}
		for _, cost := range []int64{1, 1000} {
			if e := x.Push("a", api.Job{Cost: cost}); e != api.ErrQueue {
				t.Errorf("mode %d: Push of one too many = %d", mode, e)
			}
		}
		is(t, state(x, "a", "b", "c"), was)
		push(t, x, "b", 1, 1000)
		push(t, x, "b", 1, 1)
	}
}

// P21.1: the job that is served counts until it is done: only then there is room again.
func TestQueueRoom(t *testing.T) {
	for _, mode := range modes {
		x := made(t, mode, "a")
		for i := range int64(api.MaxQueue) {
			push(t, x, "a", i, 2)
		}
		x.Step()
		if e := x.Push("a", api.Job{Cost: 1}); e != api.ErrQueue || x.Waiting("a") != 16 || x.Ahead("a") != 31 {
			t.Errorf("mode %d: Push = %d, %d wait", mode, e, x.Waiting("a"))
		}
		x.Step()
		push(t, x, "a", 99, 1)
		if x.Waiting("a") != 16 || x.Ahead("a") != 31 {
			t.Errorf("mode %d: %d wait", mode, x.Waiting("a"))
		}
	}
}

// P21.2: fixed turns go by the names' bytes, and by the slots' numbers, whenever a tenant comes in.
func TestTurns(t *testing.T) {
	x := made(t, Fixed, "b", "a", "B", "é", "ab")
	is(t, strings.Join(x.Tenants(), "|"), "B|a|ab|b|é")
	is(t, x.Turn(), "B")
	serves(t, x, "0B 1a 2ab 3b 4é 5B 6a")
	set(t, x, "", 1) // the slot 7 of six tenants: the second one's
	is(t, x.Turn(), "B")
	serves(t, x, "7B 8a 9ab 10b 11é 12 13B")
	y := made(t, Fair, "b", "a")
	is(t, strings.Join(y.Tenants(), "|"), "a|b")
	is(t, y.Turn(), "")
}

// P21.2: in fixed turns the weight plays no part; a job has one slot each turn, and the next one begins a turn later.
func TestFixed(t *testing.T) {
	x := New(Fixed)
	set(t, x, "a", 16)
	set(t, x, "b", 1)
	push(t, x, "a", 1, 2)
	push(t, x, "a", 2, 1)
	push(t, x, "b", 3, 3)
	is(t, state(x, "a", "b"), "0 a a|b a:2,3,7/0 b:1,3,8/0")
	serves(t, x, "0a:1 1b:3")
	is(t, state(x, "a", "b"), "2 a a|b a:2,2,5/0 b:1,2,6/0")
	serves(t, x, "2a:1.")
	is(t, state(x, "a", "b"), "3 b a|b a:1,1,4/0 b:1,2,5/0")
	serves(t, x, "3b:3 4a:2. 5b:3. 6a 7b")
	is(t, state(x, "a", "b"), "8 a a|b a:0,0,1/0 b:0,0,2/0")
}

// P21.2: what a slot tells of a job is the job as it was pushed.
func TestServedJob(t *testing.T) {
	for _, mode := range modes {
		x := made(t, mode, "a")
		j := api.Job{Id: math.MinInt64, Cost: 2}
		if e := x.Push("a", j); e != api.OK {
			t.Fatalf("Push = %d", e)
		}
		for i := range int64(2) {
			if s := x.Step(); s != (Served{i, "a", j, i == 1, true}) {
				t.Errorf("mode %d: Step = %v", mode, s)
			}
		}
		want := Served{Slot: 2}
		if mode == Fixed {
			want.Tenant = "a"
		}
		if s := x.Step(); s != want {
			t.Errorf("mode %d: Step = %v", mode, s)
		}
	}
}

// P21.2: by weights a slot serves as the scheduler of chapter 20 does (its example); every slot counts.
func TestFair(t *testing.T) {
	x := New(Fair)
	set(t, x, "a", 1)
	set(t, x, "b", 2)
	serves(t, x, "0 1")
	push(t, x, "a", 1, 2)
	push(t, x, "b", 2, 2)
	push(t, x, "b", 3, 2)
	serves(t, x, "2a:1 3a:1. 4b:2 5b:2. 6b:3 7b:3. 8 9")
}

// P21.2: Drop lets all jobs go, also what one has had; the slots and the turns go on.
func TestDrop(t *testing.T) {
	for _, mode := range modes {
		x := made(t, mode, "a", "b")
		push(t, x, "a", 1, 3)
		push(t, x, "a", 2, 1)
		push(t, x, "b", 3, 1)
		x.Step()
		if n := x.Drop(); n != 3 || x.Drop() != 0 || x.Slot() != 1 || x.Waiting("a") != 0 || x.Ahead("a") != 0 || x.Ahead("b") != 0 {
			t.Errorf("mode %d: Drop = %d: %s", mode, n, state(x, "a", "b"))
		}
		push(t, x, "a", 4, 3)
		if mode == Fixed {
			serves(t, x, "1b 2a:4 3b 4a:4 5b 6a:4. 7b 8a")
		} else {
			serves(t, x, "1a:4 2a:4 3a:4. 4 5")
		}
	}
}

// P21.3: ErrNone ahead of ErrArg; costs that can be and that can not.
func TestWithinErrors(t *testing.T) {
	for _, mode := range modes {
		x := made(t, mode, "a")
		for _, cost := range []int64{0, -1, 1001, math.MinInt64, math.MaxInt64} {
			within(t, x, "b", cost, 0, api.ErrNone)
			within(t, x, "a", cost, 0, api.ErrArg)
		}
		within(t, x, "b", 1, 0, api.ErrNone)
		within(t, x, "", 1, 0, api.ErrNone)
		for _, cost := range []int64{1, 1000} {
			if n, e := x.Within("a", cost); n < 1 || e != api.OK {
				t.Errorf("mode %d: Within = %d, %d", mode, n, e)
			}
		}
	}
}

// P21.3: in fixed turns, from each slot on, also where the queue is full.
func TestWithinFixed(t *testing.T) {
	x := made(t, Fixed, "a", "b", "c")
	for _, want := range [][3]int64{{1, 2, 3}, {3, 1, 2}, {2, 3, 1}, {1, 2, 3}} {
		for i, tenant := range []string{"a", "b", "c"} {
			within(t, x, tenant, 1, want[i], api.OK)
			within(t, x, tenant, 1000, want[i]+999*3, api.OK)
		}
		x.Step()
	}
	for i := range int64(api.MaxQueue) {
		push(t, x, "b", i, 10)
	}
	within(t, x, "b", 5, 1+164*3, api.OK) // b's turn is at the next slot, 4
	within(t, x, "a", 5, 3+4*3, api.OK)
}

// P21.3: by weights (q + C) W / w, rounded up, and C N: whatever the cost.
func TestWithinFair(t *testing.T) {
	x := New(Fair)
	set(t, x, "a", 3)
	within(t, x, "a", 1, 2000, api.OK)
	set(t, x, "b", 4)
	within(t, x, "a", 1, 2334+2000, api.OK) // 7000 / 3
	within(t, x, "b", 1000, 1750+2000, api.OK)
	push(t, x, "b", 1, 7)
	push(t, x, "b", 2, 3)
	within(t, x, "b", 1, 1768+2000, api.OK) // 7070 / 4
	x.Step()
	x.Step()
	within(t, x, "b", 1, 1764+2000, api.OK) // 7056 / 4
	within(t, x, "a", 1, 2334+2000, api.OK)
	set(t, x, "a", 16) // by its weight of now
	within(t, x, "a", 7, 1250+2000, api.OK)
	within(t, x, "b", 7, 5040+2000, api.OK) // 1008 * 20 / 4
	for i := range api.MaxTenants - 2 {
		set(t, x, "t"+strconv.Itoa(i), 16)
	}
	set(t, x, "t0", 1)
	for i := range int64(api.MaxQueue) {
		push(t, x, "t0", i, fair.MaxCost)
	}
	within(t, x, "t0", 1, 17000*(4+14*16+1)+16000, api.OK)
}

// Rule 4: what is written into an answer of Tenants, or appended to it, is in no later answer, and moves no turn.
func TestTenantsIsApart(t *testing.T) {
	for _, mode := range modes {
		x := made(t, mode, "c", "a", "d")
		l, again := x.Tenants(), x.Tenants()
		l[0] = "x"
		_ = append(l, "y")
		_ = append(l[:1], "z")
		if !slices.Equal(again, []string{"a", "c", "d"}) || !slices.Equal(x.Tenants(), again) {
			t.Errorf("mode %d: %v, %v", mode, again, x.Tenants())
		}
		set(t, x, "b", 1)
		set(t, x, "e", 1)
		if !slices.Equal(l, []string{"x", "z", "d"}) || !slices.Equal(x.Tenants(), []string{"a", "b", "c", "d", "e"}) {
			t.Errorf("mode %d: %v, %v", mode, l, x.Tenants())
		}
		if mode == Fixed {
			serves(t, x, "0a 1b 2c 3d 4e 5a")
		}
	}
}
