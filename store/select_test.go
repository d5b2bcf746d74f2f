package store

import (
	"cmp"
	"math"
	"math/rand"
	"slices"
	"testing"

	"belfry/api"
	"belfry/attr"
)

// P8.3: points by name, attributes, time; lines and spans by time, then as they came.
func TestSelectOrder(t *testing.T) {
	s := made(t, 50,
		point(t, "b", "{}", 1), point(t, "a", `{b="1"}`, 9), point(t, "a", `{a="2"}`, 2), point(t, "a", `{a="10"}`, 7), point(t, "a", "{}", 8), point(t, "a", `{a="2"}`, 4), point(t, "a", `{a="2", b="1"}`, 3), point(t, "", `{z="1"}`, 99), point(t, "a0", "{}", 0), point(t, "B", "{}", 5),
		line(t, "1", "{}", 5), line(t, "2", `{a="1"}`, 3), line(t, "3", "{}", 5), line(t, "4", "{}", -1), line(t, "5", "{}", 3), line(t, "6", "{}", 5),
		span(t, "x", "{}", 5, 6, 1, 9), span(t, "c", "{}", 4, 9, 2, 1), span(t, "a", "{}", 5, 5, 1, 1), span(t, "b", "{}", 4, 4, 1, 2))
	least, most := int64(math.MinInt64), int64(math.MaxInt64)
	is(t, "points", s.Select(api.KPoint, "", nil, least, most), `1{z="1"}99 1B{}5 1a{}8 1a{a="10"}7 1a{a="2"}2 1a{a="2"}4 1a{a="2", b="1"}3 1a{b="1"}9 1a0{}0 1b{}1`)
	is(t, "lines", s.Select(api.KLine, "", nil, least, most), `24{}-1 22{a="1"}3 25{}3 21{}5 23{}5 26{}5`)
	is(t, "spans", s.Select(api.KSpan, "", nil, least, most), "3c{}4 3b{}4 3x{}5 3a{}5")
	is(t, "a trace", s.Trace([16]byte{1}), "3b{}4 3x{}5 3a{}5")
	is(t, "another trace", s.Trace([16]byte{2}), "3c{}4")
	is(t, "no trace", s.Trace([16]byte{}), "")
	for _, kind := range []int{0, -1, 4, math.MinInt, math.MaxInt} {
		is(t, "no kind", s.Select(kind, "", nil, least, most), "")
		if len(s.Keys(kind)) != 0 || len(s.Values(kind, "a")) != 0 {
			t.Errorf("kind %d has keys", kind)
		}
	}
}

// P8.3: by name, by matchers, by time, with both ends in it.
func TestSelect(t *testing.T) {
	s := made(t, 50,
		point(t, "up", `{a="1"}`, 5), point(t, "up", `{a="1"}`, 7), point(t, "up", `{a="2"}`, 6), point(t, "down", "{}", 6),
		line(t, "x", `{env="prod"}`, 5), line(t, "y", "{}", 6), api.Record{Kind: api.KLine, Name: "up", T: 7},
		span(t, "up", `{a="1"}`, 6, 9, 1, 1))
	all := "1down{}6 " + `1up{a="1"}5 1up{a="1"}7 1up{a="2"}6`
	for _, c := range []struct {
		kind     int
		name, m  string
		from, to int64
		want     string
	}{
		{api.KPoint, "", "{}", 0, 9, all},
		{api.KPoint, "", "{}", math.MinInt64, math.MaxInt64, all},
		{api.KPoint, "up", "{}", 0, 9, `1up{a="1"}5 1up{a="1"}7 1up{a="2"}6`},
		{api.KPoint, "u", "{}", 0, 9, ""},
		{api.KPoint, "upp", "{}", 0, 9, ""},
		{api.KPoint, "up", "{}", 5, 5, `1up{a="1"}5`},
		{api.KPoint, "up", "{}", 5, 6, `1up{a="1"}5 1up{a="2"}6`},
		{api.KPoint, "up", "{}", 6, 7, `1up{a="1"}7 1up{a="2"}6`},
		{api.KPoint, "up", "{}", 6, 5, ""},
		{api.KPoint, "up", "{}", math.MaxInt64, math.MinInt64, ""},
		{api.KPoint, "up", "{}", 8, 9, ""},
		{api.KPoint, "", `{a="1"}`, 0, 9, `1up{a="1"}5 1up{a="1"}7`},
		{api.KPoint, "", `{a!="1"}`, 0, 9, `1down{}6 1up{a="2"}6`},
		{api.KPoint, "", `{a=""}`, 0, 9, `1down{}6`},
		{api.KPoint, "up", `{a=~"", a!~"2"}`, 6, 9, `1up{a="1"}7`},
		{api.KPoint, "up", `{a="1", a="2"}`, 0, 9, ""},
		{api.KLine, "", `{env=~"pr"}`, 0, 9, `2x{env="prod"}5`},
		{api.KLine, "up", "{}", 0, 9, "2up{}7"},
		{api.KLine, "x", "{}", 0, 9, ""},
		{api.KSpan, "up", `{a="1"}`, 6, 6, `3up{a="1"}6`},
		{api.KSpan, "up", `{a="1"}`, 7, 9, ""},
	} {
		is(t, c.name+c.m, s.Select(c.kind, c.name, match(t, c.m), c.from, c.to), c.want)
	}
	is(t, "an operator that is none", s.Select(api.KPoint, "", []api.Matcher{{Op: 9, Key: "a", Value: "1"}}, 0, 9), "")
	is(t, "a key that can not be", s.Select(api.KPoint, "", []api.Matcher{{Op: api.MNe, Key: "\xff", Value: "1"}}, 0, 9), all)
	is(t, "many matchers", s.Select(api.KPoint, "", make([]api.Matcher, 1000), 0, 9), "")
	is(t, "many matchers", s.Select(api.KPoint, "up", slices.Repeat(match(t, `{a="2"}`), 1000), 0, 9), `1up{a="2"}6`)
}

// P8.3: keys and values of a kind, rising byte by byte, none twice; those that are gone are not told.
func TestKeysAndValues(t *testing.T) {
	s := made(t, 50,
		point(t, "up", `{b="2", c="1"}`, 5), point(t, "up", `{B="1", b="10"}`, 6), point(t, "up", `{b="é"}`, 7), point(t, "down", `{b="2"}`, 8), point(t, "down", `{a.b="z"}`, 3),
		line(t, "x", `{a="1", l="1"}`, 5), span(t, "GET", `{s="1"}`, 5, 6, 1, 1))
	equal := func(what string, g []string, want ...string) {
		t.Helper()
		if !slices.Equal(g, want) {
			t.Errorf("%s = %q, want %q", what, g, want)
		}
	}
	equal("keys of points", s.Keys(api.KPoint), "B", "a.b", "b", "c")
	equal("keys of lines", s.Keys(api.KLine), "a", "l")
	equal("keys of spans", s.Keys(api.KSpan), "s")
	equal("values", s.Values(api.KPoint, "b"), "10", "2", "é")
	equal("values", s.Values(api.KPoint, "a.b"), "z")
	equal("values", s.Values(api.KLine, "a"), "1")
	for _, key := range []string{"", "a", "\xff", "l"} {
		equal("values of no key", s.Values(api.KPoint, key))
	}
	s.Cut(6)
	equal("keys of points", s.Keys(api.KPoint), "B", "b")
	equal("keys of lines", s.Keys(api.KLine))
	equal("keys of spans", s.Keys(api.KSpan), "s")
	equal("values", s.Values(api.KPoint, "b"), "10", "2", "é")
	equal("values", s.Values(api.KPoint, "c"))
}

// P8.3: how many of a kind; of 0 all; of another number none.
func TestLen(t *testing.T) {
	s := made(t, 50, point(t, "up", "{}", 5), line(t, "x", "{}", 6), line(t, "x", "{}", 5), span(t, "GET", "{}", 5, 6, 1, 1), line(t, "y", "{}", 5))
	for kind, want := range map[int]int{0: 5, api.KPoint: 1, api.KLine: 3, api.KSpan: 1, 4: 0, -1: 0, math.MaxInt: 0, math.MinInt: 0} {
		if g := s.Len(kind); g != want {
			t.Errorf("Len(%d) = %d, want %d", kind, g, want)
		}
	}
}

// shelf is the model of a store: its records as they came, and nothing else.
type shelf struct {
	most    int
	version int64
	records []api.Record
}

func (m *shelf) put(r api.Record) api.Errno {
	for _, o := range m.records {
		if r.Kind == api.KPoint && o.Kind == api.KPoint && o.Name == r.Name && attr.Cmp(o.Attrs, r.Attrs) == 0 && o.T >= r.T {
			return api.ErrOld
		}
		if r.Kind == api.KSpan && o.Kind == api.KSpan && o.Trace == r.Trace && o.Id == r.Id {
			return api.ErrTwice
		}
	}
	if len(m.records) == m.most {
		return api.ErrFull
	}
	m.records = append(m.records, r)
	m.version++
	return api.OK
}

func (m *shelf) cut(before int64) int {
	n := len(m.records)
	m.records = slices.DeleteFunc(m.records, func(r api.Record) bool {
		return r.Kind == api.KSpan && r.To < before || r.Kind != api.KSpan && r.T < before
	})
	if n -= len(m.records); n > 0 {
		m.version++
	}
	return n
}

func (m *shelf) find(test func(r api.Record) bool) []api.Record {
	var out []api.Record
	for _, r := range m.records {
		if test(r) {
			out = append(out, r)
		}
	}
	slices.SortStableFunc(out, func(a, b api.Record) int {
		if a.Kind == api.KPoint {
			return cmp.Or(cmp.Compare(a.Name, b.Name), attr.Cmp(a.Attrs, b.Attrs), cmp.Compare(a.T, b.T))
		}
		return cmp.Compare(a.T, b.T)
	})
	return out
}

func some(r *rand.Rand, l ...string) string {
	return l[r.Intn(len(l))]
}

func anyRecord(t *testing.T, r *rand.Rand, now int64) api.Record {
	attrs := set(t, some(r, "{}", `{a="1"}`, `{a="2"}`, `{a="1", b="1"}`, `{b="1"}`))
	at := now + int64(r.Intn(9)) - 4
	return api.Record{Kind: 1 + r.Intn(3), Name: some(r, "", "x", "y"), Attrs: attrs, T: at, To: at + int64(r.Intn(6)) - 1, V: r.Int63(), Text: some(r, "p", "q"), Trace: [16]byte{byte(r.Intn(3))}, Id: [8]byte{byte(r.Intn(12))}}
}

// check holds a store to the model, by questions of every kind.
func (m *shelf) check(t *testing.T, r *rand.Rand, s *Store, now int64) {
	t.Helper()
	if s.Version() != m.version || s.Len(0) != len(m.records) || !slices.EqualFunc(slices.Collect(s.All()), m.records, alike) {
		t.Fatal("the store is not as the model")
	}
	kind, name := r.Intn(5), some(r, "", "x", "y", "z")
	from := now + int64(r.Intn(20)) - 10
	to := from + int64(r.Intn(12)) - 1
	matchers := match(t, some(r, "{}", `{a="1"}`, `{a!="1"}`, `{b=~"1", a!~"2"}`))
	want := m.find(func(x api.Record) bool {
		return x.Kind == kind && (name == "" || x.Name == name) && x.T >= from && x.T <= to && attr.Fits(x.Attrs, matchers)
	})
	if g := s.Select(kind, name, matchers, from, to); !slices.EqualFunc(g, want, alike) {
		t.Fatalf("Select(%d, %q, %v, %d, %d) = %v, want %v", kind, name, matchers, from, to, g, want)
	}
	trace := [16]byte{byte(r.Intn(4))}
	want = m.find(func(x api.Record) bool { return x.Kind == api.KSpan && x.Trace == trace })
	if g := s.Trace(trace); !slices.EqualFunc(g, want, alike) {
		t.Fatalf("Trace(%v) = %v, want %v", trace, g, want)
	}
	if n := len(m.find(func(x api.Record) bool { return kind == 0 || x.Kind == kind })); s.Len(kind) != n {
		t.Fatalf("Len(%d) = %d, want %d", kind, s.Len(kind), n)
	}
	checkParts(t, s, kind, name, matchers, from, to)
}

// P8.6: a part of Select without matchers, in the same order; and two times that part a third one.
func checkParts(t *testing.T, s *Store, kind int, name string, m []api.Matcher, from, to int64) {
	t.Helper()
	whole := s.Select(kind, name, m, from, to)
	at := 0
	for _, r := range s.Select(kind, name, nil, math.MinInt64, math.MaxInt64) {
		if at < len(whole) && alike(r, whole[at]) {
			at++
		}
	}
	if at != len(whole) {
		t.Fatal("what is found by matchers is no part of what is found without them")
	}
	middle := (from + to) / 2
	first, second := s.Select(kind, name, m, from, middle), s.Select(kind, name, m, middle+1, to)
	if from <= to && len(first)+len(second) != len(whole) {
		t.Fatal("two parts of a time are not the whole")
	}
	for _, r := range slices.Concat(first, second) {
		if from <= to && !slices.ContainsFunc(whole, func(x api.Record) bool { return alike(x, r) }) {
			t.Fatal("a part of a time has more than the whole")
		}
	}
}

// P8.2 to P8.6, P8.8: whatever is done in whatever order, the store is as the model, and versions never fall.
func TestAsTheModel(t *testing.T) {
	for seed := range int64(150) {
		r := rand.New(rand.NewSource(seed))
		most := 1 + r.Intn(60)
		s, m := New(most), &shelf{most: most}
		now := int64(0)
		for range 150 {
			now += int64(r.Intn(2))
			was := s.Version()
			before, x := now-int64(r.Intn(12)), anyRecord(t, r, now)
			if r.Intn(20) == 0 {
				if n, want := s.Cut(before), m.cut(before); n != want {
					t.Fatalf("seed %d: Cut(%d) = %d, want %d", seed, before, n, want)
				}
			} else if e, want := s.Put(x), m.put(x); e != want {
				t.Fatalf("seed %d: Put(%v) = %d, want %d", seed, x, e, want)
			}
			if r.Intn(10) == 0 {
				old := s
				s = s.Copy()
				old.Cut(math.MaxInt64)
			}
			if s.Version() < was {
				t.Fatalf("seed %d: the version falls", seed)
			}
			m.check(t, r, s, now)
		}
	}
}

// P8.5: each record is told by its kind, its name and its time.
func TestEachIsFound(t *testing.T) {
	r := rand.New(rand.NewSource(1))
	s := New(500)
	for i := range 900 {
		s.Put(anyRecord(t, r, int64(i/20)))
	}
	s.Cut(9)
	found := 0
	for x := range s.All() {
		found++
		l := s.Select(x.Kind, x.Name, nil, x.T, x.T)
		if !slices.ContainsFunc(l, func(o api.Record) bool { return alike(o, x) }) {
			t.Errorf("%v is not found", x)
		}
	}
	told := 0
	for kind := range 5 {
		told += len(s.Select(kind, "", nil, math.MinInt64, math.MaxInt64))
	}
	if found != s.Len(0) || told != found || found == 0 {
		t.Errorf("%d records, %d are told, Len = %d", found, told, s.Len(0))
	}
}

// P8.7: a Cut, and a later one behind it, are the later one; what is left lies at or behind its time.
func TestCutOfCut(t *testing.T) {
	r := rand.New(rand.NewSource(2))
	for range 300 {
		s := New(100)
		for i := range 60 {
			s.Put(anyRecord(t, r, int64(i/4)))
		}
		first := int64(r.Intn(20)) - 3
		later := first + int64(r.Intn(8))
		once := s.Copy()
		n := s.Cut(first) + s.Cut(later)
		if n != once.Cut(later) || !slices.EqualFunc(slices.Collect(s.All()), slices.Collect(once.All()), alike) {
			t.Fatalf("Cut(%d) and Cut(%d) are not Cut of the later one", first, later)
		}
		for x := range s.All() {
			if x.Kind == api.KSpan && x.To < later || x.Kind != api.KSpan && x.T < later {
				t.Fatalf("Cut(%d) leaves %v", later, x)
			}
		}
	}
}
