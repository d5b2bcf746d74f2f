package slots

import (
	"belfry/api"
	"belfry/fair"
)

// turns is the jobs of each tenant that has some. A tenant without jobs has no queue there: a nil queue answers as one in which nothing waits, so that there are jobs left just where turns is not empty.
type turns map[string]*fair.Queue[*task]

// task is a job, and how many slots it still needs.
type task struct {
	job   api.Job
	needs int64
}

// push puts a job behind a tenant's others.
func (x turns) push(tenant string, j api.Job) api.Errno {
	line := x[tenant]
	if line == nil {
		line = fair.NewQueue[*task](api.MaxQueue)
		x[tenant] = line
	}
	return line.Push(&task{j, j.Cost})
}

// serve gives a slot to a tenant's first job: it tells the job, whether it is done, and whether there was one.
func (x turns) serve(tenant string) (api.Job, bool, bool) {
	first, some := x[tenant].Peek()
	if !some {
		return api.Job{}, false, false
	}
	first.needs--
	if first.needs > 0 {
		return first.job, false, true
	}
	x[tenant].Pop()
	if x.waiting(tenant) == 0 {
		delete(x, tenant)
	}
	return first.job, true, true
}

// waiting tells how many jobs of a tenant are not done.
func (x turns) waiting(tenant string) int {
	return x[tenant].Len()
}

// ahead tells how many slots a tenant's jobs still need.
func (x turns) ahead(tenant string) int64 {
	var n int64
	for _, one := range x[tenant].All() {
		n += one.needs
	}
	return n
}

// drop lets all jobs go, and tells how many they were.
func (x turns) drop() int {
	n := 0
	for tenant, line := range x {
		n += line.Len()
		delete(x, tenant)
	}
	return n
}
