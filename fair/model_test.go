package fair

import (
	"math/rand"
	"slices"
	"testing"

	"belfry/api"
)

// modelJob is a job with its times, in parts of Scale.
type modelJob struct {
	job        api.Job
	start, end int64
	served     int64
}

// modelTenant is a tenant by the chapter's words: all that it ever pushed is kept as long as it is not done.
type modelTenant struct {
	weight int64
	last   int64
	jobs   []*modelJob
}

// model is a scheduler by the chapter's words.
type model struct {
	clock   int64
	tenants map[string]*modelTenant
	now     string // whose first job is served
	serves  bool
}

func newModel() *model { return &model{tenants: map[string]*modelTenant{}} }

func (m *model) set(tenant string, weight int) api.Errno {
	x := m.tenants[tenant]
	switch {
	case weight < 1 || weight > 16:
		return api.ErrArg
	case x != nil && len(x.jobs) > 0:
		return api.ErrQueue
	case x == nil && len(m.tenants) >= 16:
		return api.ErrFull
	}
	m.tenants[tenant] = &modelTenant{weight: int64(weight), last: m.clock}
	return api.OK
}

func (m *model) push(tenant string, j api.Job) api.Errno {
	x := m.tenants[tenant]
	switch {
	case x == nil:
		return api.ErrNone
	case j.Cost < 1 || j.Cost > 1000:
		return api.ErrArg
	case len(x.jobs) >= 16:
		return api.ErrQueue
	}
	start := m.clock
	if x.last > start {
		start = x.last
	}
	x.last = start + j.Cost*720720/x.weight
	x.jobs = append(x.jobs, &modelJob{job: j, start: start, end: x.last})
	return api.OK
}

// names tells the tenants in falling order, so that the model's choice does not lean on the order in which it goes through them.
func (m *model) names() []string {
	var out []string
	for name := range m.tenants {
		out = append(out, name)
	}
	slices.Sort(out)
	slices.Reverse(out)
	return out
}

func (m *model) step() (string, api.Job, bool, bool) {
	if !m.serves {
		for _, name := range m.names() {
			x := m.tenants[name]
			if len(x.jobs) == 0 {
				continue
			}
			if !m.serves || x.jobs[0].start <= m.tenants[m.now].jobs[0].start {
				m.now, m.serves = name, true
			}
		}
		if !m.serves {
			return "", api.Job{}, false, false
		}
		m.clock = m.tenants[m.now].jobs[0].start
	}
	x := m.tenants[m.now]
	j := x.jobs[0]
	j.served++
	if j.served < j.job.Cost {
		return m.now, j.job, false, true
	}
	x.jobs = x.jobs[1:]
	m.serves = false
	if m.left() == 0 {
		m.begin()
	}
	return m.now, j.job, true, true
}

func (m *model) left() int {
	n := 0
	for _, x := range m.tenants {
		n += len(x.jobs)
	}
	return n
}

func (m *model) begin() {
	m.clock = 0
	for _, x := range m.tenants {
		x.last, x.jobs = 0, nil
	}
	m.serves = false
}

func (m *model) drop() int {
	n := m.left()
	m.begin()
	return n
}

// same holds what a scheduler tells against the model.
func (m *model) same(t *testing.T, s *Sched, names []string) {
	t.Helper()
	sum := 0
	for _, name := range names {
		x := m.tenants[name]
		jobs, need := 0, int64(0)
		if x != nil {
			sum += int(x.weight)
			jobs = len(x.jobs)
			for _, j := range x.jobs {
				need += j.job.Cost - j.served
			}
		}
		if s.Waiting(name) != jobs || s.Ahead(name) != need {
			t.Fatalf("%q: %d jobs that need %d, want %d, %d", name, s.Waiting(name), s.Ahead(name), jobs, need)
		}
	}
	if g, n := s.Weights(); g != sum || n != len(m.tenants) {
		t.Fatalf("Weights = %d, %d, want %d, %d", g, n, sum, len(m.tenants))
	}
}

// P20.2, P20.3, P20.7, P20.8: a scheduler is as the model, call by call.
func TestModel(t *testing.T) {
	for seed := range int64(400) {
		r := rand.New(rand.NewSource(seed))
		names := []string{"", "a", "b", "ab", "B", "é"}
		for i := range r.Intn(14) {
			names = append(names, string(rune('c'+i)))
		}
		top := []int64{1, 2, 5, 40, 1001}[r.Intn(5)]
		often := 2 + r.Intn(6) // how many of ten calls are slots
		s, m := New(), newModel()
		for id := range int64(400) {
			name := names[r.Intn(len(names))]
			switch k := r.Intn(10); {
			case k < often:
				tenant, j, done, ok := s.Step()
				wt, wj, wd, wok := m.step()
				if tenant != wt || j != wj || done != wd || ok != wok {
					t.Fatalf("seed %d: Step = %q %v %v %v, want %q %v %v %v", seed, tenant, j, done, ok, wt, wj, wd, wok)
				}
			case k == 9 && (id < 20 || r.Intn(5) == 0):
				weight := r.Intn(18)
				if g, w := s.Set(name, weight), m.set(name, weight); g != w {
					t.Fatalf("seed %d: Set = %d, want %d", seed, g, w)
				}
			case k == 8 && r.Intn(40) == 0:
				if g, w := s.Drop(), m.drop(); g != w {
					t.Fatalf("seed %d: Drop = %d, want %d", seed, g, w)
				}
			default:
				j := api.Job{Id: id, Cost: r.Int63n(top + 1)}
				if g, w := s.Push(name, j), m.push(name, j); g != w {
					t.Fatalf("seed %d: Push = %d, want %d", seed, g, w)
				}
			}
			m.same(t, s, names)
		}
	}
}

// waits is a job that waits, and the slot by which it is done.
type waits struct {
	id, by int64
}

// crowd is tenants that push jobs at will, and what should become of these.
type crowd struct {
	s       *Sched
	names   []string
	weights map[string]int64
	all     int64 // the weights together
	most    int64 // the greatest cost
	lines   map[string][]waits
	served  int64 // how many slots the job that is served has had
	serving int64 // its number
	pushed  int64 // the number of the last one
}

// anyCrowd is one of up to MaxTenants tenants.
func anyCrowd(t *testing.T, r *rand.Rand) *crowd {
	c := &crowd{s: New(), weights: map[string]int64{}, lines: map[string][]waits{}, most: []int64{1, 2, 7, 30}[r.Intn(4)]}
	for i := range 1 + r.Intn(api.MaxTenants) {
		name, weight := string(rune('a'+i)), 1+r.Intn(MaxWeight)
		if r.Intn(3) == 0 {
			weight = []int{1, MaxWeight}[r.Intn(2)]
		}
		set(t, c.s, name, weight)
		c.names, c.weights[name], c.all = append(c.names, name), int64(weight), c.all+int64(weight)
	}
	return c
}

// push lets somebody push a job at a slot, the first two tenants more often than others.
func (c *crowd) push(r *rand.Rand, slot int64) {
	name := c.names[r.Intn(len(c.names))]
	if r.Intn(2) == 0 {
		name = c.names[r.Intn(min(2, len(c.names)))]
	}
	c.pushed++
	q := c.s.Ahead(name)
	if c.s.Push(name, api.Job{Id: c.pushed, Cost: 1 + r.Int63n(c.most)}) == api.OK {
		within := (q+c.most)*c.all/c.weights[name] + c.most*int64(len(c.names))
		c.lines[name] = append(c.lines[name], waits{c.pushed, slot + within})
	}
}

func (c *crowd) left() int {
	n := 0
	for _, l := range c.lines {
		n += len(l)
	}
	return n
}

// step is a slot, and tells whether it served as it should.
func (c *crowd) step(slot int64) bool {
	left := c.left()
	tenant, j, done, ok := c.s.Step()
	if !ok {
		return left == 0
	}
	if left == 0 || len(c.lines[tenant]) == 0 || j.Id != c.lines[tenant][0].id || c.served > 0 && c.serving != j.Id {
		return false
	}
	c.served, c.serving = c.served+1, j.Id
	if done != (c.served == j.Cost) {
		return false
	}
	if done {
		c.lines[tenant], c.served = c.lines[tenant][1:], 0
	}
	for _, l := range c.lines {
		if len(l) > 0 && l[0].by <= slot+1 {
			return false
		}
	}
	return true
}

// P20.5, P20.6, P20.7: each job is done in time, in the order of its tenant's, slot behind slot; no slot is idle while one waits.
func TestInTurn(t *testing.T) {
	for seed := range int64(400) {
		r := rand.New(rand.NewSource(seed))
		c := anyCrowd(t, r)
		busy := 1 + r.Intn(6)
		for slot := range int64(1500) {
			for range r.Intn(busy) {
				c.push(r, slot)
			}
			if !c.step(slot) {
				t.Fatalf("seed %d: the slot %d", seed, slot)
			}
		}
	}
}
