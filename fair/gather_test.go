package fair

import (
	"math"
	"math/rand"
	"runtime"
	"slices"
	"testing"
	"time"

	"belfry/api"
)

// gathered is what the chapter says: by number, then by list, then as the list has it, one by one.
func gathered(lists [][]api.Job) []api.Job {
	type at struct {
		job         api.Job
		list, place int
	}
	var all []at
	for i, l := range lists {
		for k, j := range l {
			all = append(all, at{j, i, k})
		}
	}
	slices.SortFunc(all, func(a, b at) int {
		switch {
		case a.job.Id < b.job.Id:
			return -1
		case a.job.Id > b.job.Id:
			return 1
		case a.list != b.list:
			return a.list - b.list
		}
		return a.place - b.place
	})
	var out []api.Job
	for _, x := range all {
		out = append(out, x.job)
	}
	return out
}

// P20.4: nothing of nothing.
func TestGatherNone(t *testing.T) {
	for _, lists := range [][][]api.Job{nil, {nil}, {{}}, {nil, nil}, {nil, {}, nil}, make([][]api.Job, 101)} {
		if l := Gather(lists...); len(l) != 0 {
			t.Errorf("Gather of %d empty lists = %v", len(lists), l)
		}
	}
}

// P20.4: by numbers, rising; those of one number as the lists, and each list, have them. Costs play no part, nor whether they can be.
func TestGather(t *testing.T) {
	for _, c := range []struct {
		lists [][]api.Job
		want  []api.Job
	}{
		{[][]api.Job{{{Id: 3, Cost: 1}}}, []api.Job{{Id: 3, Cost: 1}}},
		{[][]api.Job{{{Id: 2}, {Id: 1, Cost: 5}}, {{Id: 1}}}, []api.Job{{Id: 1, Cost: 5}, {Id: 1}, {Id: 2}}},
		{[][]api.Job{nil, {{Id: 2}}, nil, {{Id: 1}}, nil}, []api.Job{{Id: 1}, {Id: 2}}},
		{[][]api.Job{{{Id: 1, Cost: 9}, {Id: 1, Cost: 3}}, {{Id: 1, Cost: 7}}, {{Id: 1, Cost: 1}, {Id: 1, Cost: 2}}}, []api.Job{{Id: 1, Cost: 9}, {Id: 1, Cost: 3}, {Id: 1, Cost: 7}, {Id: 1, Cost: 1}, {Id: 1, Cost: 2}}},
		{[][]api.Job{{{Id: 0}, {Id: math.MaxInt64}}, {{Id: math.MinInt64, Cost: math.MinInt64}, {Id: -1, Cost: math.MaxInt64}}}, []api.Job{{Id: math.MinInt64, Cost: math.MinInt64}, {Id: -1, Cost: math.MaxInt64}, {Id: 0}, {Id: math.MaxInt64}}},
	} {
		if l := Gather(c.lists...); !slices.Equal(l, c.want) {
			t.Errorf("Gather(%v) = %v, want %v", c.lists, l, c.want)
		}
	}
}

// P20.4, rule 6: many lists, of few numbers, again and again, on one processor and on several: always the same.
func TestGatherModel(t *testing.T) {
	defer runtime.GOMAXPROCS(runtime.GOMAXPROCS(0))
	for seed := range int64(300) {
		runtime.GOMAXPROCS(1 + int(seed%4))
		r := rand.New(rand.NewSource(seed))
		lists := make([][]api.Job, r.Intn(30))
		for i := range lists {
			for range r.Intn(20) {
				lists[i] = append(lists[i], api.Job{Id: r.Int63n(12), Cost: r.Int63()})
			}
		}
		want := gathered(lists)
		for range 5 {
			if l := Gather(lists...); !slices.Equal(l, want) {
				t.Fatalf("seed %d: Gather(%v) = %v, want %v", seed, lists, l, want)
			}
		}
	}
}

// P20.4: long lists, and very many of them.
func TestGatherMany(t *testing.T) {
	r := rand.New(rand.NewSource(1))
	long := make([][]api.Job, 3)
	for i := range long {
		for range 20000 {
			long[i] = append(long[i], api.Job{Id: r.Int63n(5000), Cost: r.Int63()})
		}
	}
	many := make([][]api.Job, 20001)
	for i := range many {
		many[i] = []api.Job{{Id: r.Int63n(5000), Cost: int64(i)}}
	}
	for _, lists := range [][][]api.Job{long, many} {
		if !slices.Equal(Gather(lists...), gathered(lists)) {
			t.Errorf("Gather of %d lists is not in order", len(lists))
		}
	}
}

// Rules 4 and 5: the lists are not changed and not kept, and an answer is new memory.
func TestGatherIsApart(t *testing.T) {
	lists := [][]api.Job{{{Id: 3}, {Id: 1}}, {{Id: 2}}}
	l := Gather(lists...)
	if lists[0][0].Id != 3 || lists[0][1].Id != 1 || lists[1][0].Id != 2 {
		t.Errorf("the lists are changed: %v", lists)
	}
	lists[0][0].Id, lists[1][0].Id = 9, 9
	if l[0].Id != 1 || l[1].Id != 2 || l[2].Id != 3 {
		t.Errorf("the answer is changed: %v", l)
	}
	one := []api.Job{{Id: 1}, {Id: 2}}
	l = Gather(one)
	l[0].Id = 7
	_ = append(l[:1], api.Job{Id: 8})
	if one[0].Id != 1 || one[1].Id != 2 {
		t.Errorf("an answer shares a list's memory: %v", one)
	}
}

// No goroutine is left behind.
func TestGatherJoins(t *testing.T) {
	was := runtime.NumGoroutine()
	for range 200 {
		Gather(make([][]api.Job, 7)...)
	}
	for wait := 0; runtime.NumGoroutine() > was; wait++ {
		if wait == 1000 {
			t.Fatalf("%d goroutines are left, there were %d", runtime.NumGoroutine(), was)
		}
		time.Sleep(time.Millisecond)
	}
}
