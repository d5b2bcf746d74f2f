package store

import (
	"math"
	"reflect"
	"slices"
	"strconv"
	"strings"
	"testing"

	"belfry/api"
	"belfry/attr"
)

// set is a set of attributes, by its text.
func set(t *testing.T, s string) []api.Attr {
	t.Helper()
	l, e, _ := attr.Parse(s)
	if e != api.OK {
		t.Fatalf("no set: %s", s)
	}
	return l
}

func match(t *testing.T, s string) []api.Matcher {
	t.Helper()
	l, e, _ := attr.ParseMatch(s)
	if e != api.OK {
		t.Fatalf("no matchers: %s", s)
	}
	return l
}

func point(t *testing.T, name, attrs string, at int64) api.Record {
	t.Helper()
	return api.Record{Kind: api.KPoint, Name: name, Attrs: set(t, attrs), T: at}
}

func line(t *testing.T, text, attrs string, at int64) api.Record {
	t.Helper()
	return api.Record{Kind: api.KLine, Text: text, Attrs: set(t, attrs), T: at}
}

func span(t *testing.T, name, attrs string, at, to int64, trace, id byte) api.Record {
	t.Helper()
	return api.Record{Kind: api.KSpan, Name: name, Attrs: set(t, attrs), T: at, To: to, Trace: [16]byte{trace}, Id: [8]byte{id}}
}

// put puts records, each of which is taken.
func put(t *testing.T, s *Store, l ...api.Record) {
	t.Helper()
	for _, r := range l {
		if e := s.Put(r); e != api.OK {
			t.Fatalf("Put(%v) = %d", r, e)
		}
	}
}

func made(t *testing.T, most int, l ...api.Record) *Store {
	t.Helper()
	s := New(most)
	if s == nil {
		t.Fatalf("New(%d) = nil", most)
	}
	put(t, s, l...)
	return s
}

// rows is how many lists a store has: one that a refused Put has left behind would be seen by nobody.
func rows(s *Store) int {
	return len(s.points.rows) + len(s.lines.rows) + len(s.spans.rows)
}

// refused holds a Put to its error, and to changing nothing.
func refused(t *testing.T, s *Store, what string, want api.Errno, r api.Record) {
	t.Helper()
	was := s.Copy()
	if e := s.Put(r); e != want {
		t.Errorf("%s: Put = %d, want %d", what, e, want)
	}
	if !s.Same(was) || told(s) != told(was) || rows(s) != rows(was) {
		t.Errorf("%s: Put, which is refused, has changed something", what)
	}
}

// short is a record in few words.
func short(r api.Record) string {
	return strconv.Itoa(r.Kind) + r.Name + r.Text + attr.Text(r.Attrs) + strconv.FormatInt(r.T, 10)
}

func shorts(l []api.Record) string {
	var out []string
	for _, r := range l {
		out = append(out, short(r))
	}
	return strings.Join(out, " ")
}

// told is all that a store tells without being asked for something.
func told(s *Store) string {
	out := shorts(slices.Collect(s.All()))
	for kind := range 4 {
		out += "; " + strconv.Itoa(s.Len(kind)) + " " + shorts(s.Select(kind, "", nil, math.MinInt64, math.MaxInt64))
		out += strings.Join(s.Keys(kind), " ")
	}
	return out + "; " + strconv.FormatInt(s.Version(), 10)
}

func is(t *testing.T, what string, l []api.Record, want string) {
	t.Helper()
	if g := shorts(l); g != want {
		t.Errorf("%s = %s, want %s", what, g, want)
	}
}

// Example 1 of the chapter.
func TestExample(t *testing.T) {
	s := made(t, 10, point(t, "up", `{a="1"}`, 5), point(t, "up", `{a="1"}`, 7))
	refused(t, s, "5 again", api.ErrOld, point(t, "up", `{a="1"}`, 5))
	is(t, "Select", s.Select(api.KPoint, "up", nil, 6, 9), `1up{a="1"}7`)
	if n := s.Cut(6); n != 1 || s.Version() != 3 {
		t.Errorf("Cut = %d, Version = %d", n, s.Version())
	}
}

// P8.1: room from 1 to MaxStore; a new store has nothing.
func TestNew(t *testing.T) {
	for _, most := range []int{0, -1, math.MinInt, api.MaxStore + 1, math.MaxInt} {
		if New(most) != nil {
			t.Errorf("New(%d) is a store", most)
		}
	}
	for _, most := range []int{1, 2, api.MaxStore} {
		s := New(most)
		if s == nil || told(s) != "; 0 ; 0 ; 0 ; 0 ; 0" || s.Cut(math.MaxInt64) != 0 || s.Version() != 0 {
			t.Errorf("New(%d) has something", most)
		}
		if len(s.Trace([16]byte{})) != 0 || len(s.Values(api.KPoint, "")) != 0 || !s.Same(New(most)) {
			t.Errorf("New(%d) has something", most)
		}
	}
}

// P8.1: a store that is nil, whatever else is wrong; and one that was not made by New, which has no room.
func TestNil(t *testing.T) {
	var s *Store
	for _, r := range []api.Record{{}, {Kind: api.KLine}, {Kind: api.KLine, Attrs: []api.Attr{{}}}} {
		if e := s.Put(r); e != api.ErrNil {
			t.Errorf("Put of nil = %d", e)
		}
	}
	if s.Copy() != nil || s.Same(nil) || s.Same(New(1)) || New(1).Same(nil) {
		t.Error("nil is a store")
	}
	zero := &Store{}
	if e := zero.Put(api.Record{Kind: api.KSpan}); e != api.ErrFull {
		t.Errorf("Put without room = %d", e)
	}
	for _, s := range []*Store{s, zero, zero.Copy()} {
		if told(s) != "; 0 ; 0 ; 0 ; 0 ; 0" || s.Cut(math.MaxInt64) != 0 || len(s.Trace([16]byte{})) != 0 || len(s.Values(api.KLine, "a")) != 0 {
			t.Error("nil has something")
		}
	}
}

// P8.2: kinds that are none, ahead of attributes that can not be; each of attr.Right's errors.
func TestPutFaults(t *testing.T) {
	s := made(t, 10, line(t, "a", "{}", 1))
	many := make([]api.Attr, api.MaxAttrs+1)
	for i := range many {
		many[i] = api.Attr{Key: "k" + strconv.Itoa(10+i), Value: "v"}
	}
	for _, kind := range []int{0, -1, 4, math.MinInt, math.MaxInt} {
		refused(t, s, "no kind", api.ErrArg, api.Record{Kind: kind})
		refused(t, s, "no kind", api.ErrArg, api.Record{Kind: kind, Attrs: many})
	}
	for kind := api.KPoint; kind <= api.KSpan; kind++ {
		for want, l := range map[api.Errno][]api.Attr{
			api.ErrFull:  many,
			api.ErrKey:   {{Key: "", Value: "v"}},
			api.ErrValue: {{Key: "a", Value: ""}},
			api.ErrTwice: {{Key: "a", Value: "1"}, {Key: "a", Value: "2"}},
			api.ErrForm:  {{Key: "b", Value: "1"}, {Key: "a", Value: "2"}},
		} {
			refused(t, s, "attributes", want, api.Record{Kind: kind, Attrs: l})
		}
		put(t, s, api.Record{Kind: kind, Attrs: many[1:]})
	}
}

// P8.2: a point is not above the last one of its series: of its name and its attributes, and of no other ones.
func TestPutOld(t *testing.T) {
	s := made(t, 20, point(t, "up", `{a="1"}`, 5))
	for _, at := range []int64{5, 4, 0, -1, math.MinInt64} {
		refused(t, s, "an old point", api.ErrOld, point(t, "up", `{a="1"}`, at))
	}
	put(t, s,
		point(t, "up", `{}`, 4), point(t, "up", `{a="2"}`, 3), point(t, "up", `{a="1", b="1"}`, 2), point(t, "u", `{a="1"}`, 1), point(t, "", "{}", 0),
		point(t, "up", `{a="1"}`, 6), point(t, "up", `{a="1"}`, math.MaxInt64), point(t, "down", "{}", math.MinInt64), point(t, "down", "{}", math.MinInt64+1))
	refused(t, s, "behind the greatest time", api.ErrOld, point(t, "up", `{a="1"}`, math.MaxInt64))
	refused(t, s, "the least time", api.ErrOld, point(t, "down", "{}", math.MinInt64))
	// Lines and spans come at any time.
	put(t, s, line(t, "x", `{a="1"}`, 5), line(t, "x", `{a="1"}`, 5), line(t, "x", "{}", 1), span(t, "up", "{}", 5, 6, 1, 1), span(t, "up", "{}", 1, 2, 1, 2))
}

// P8.2: a series whose points are gone has no last one.
func TestPutOldBehindCut(t *testing.T) {
	s := made(t, 20, point(t, "up", "{}", 5), point(t, "up", "{}", 9), point(t, "down", "{}", 7))
	s.Cut(8)
	refused(t, s, "an old point", api.ErrOld, point(t, "up", "{}", 9))
	put(t, s, point(t, "down", "{}", 2), point(t, "up", "{}", 10))
	refused(t, s, "an old point", api.ErrOld, point(t, "down", "{}", 2))
	is(t, "Select", s.Select(api.KPoint, "", nil, 0, 99), "1down{}2 1up{}9 1up{}10")
}

// P8.2: a span with the Trace and the Id of one that is there; records of other kinds play no part.
func TestPutTwice(t *testing.T) {
	s := made(t, 20, span(t, "GET", "{}", 5, 6, 1, 1))
	refused(t, s, "a span twice", api.ErrTwice, span(t, "PUT", `{a="1"}`, 9, 9, 1, 1))
	put(t, s, span(t, "GET", "{}", 5, 6, 1, 2), span(t, "GET", "{}", 5, 6, 2, 1), span(t, "GET", "{}", 5, 6, 0, 0))
	refused(t, s, "a span of zeros twice", api.ErrTwice, api.Record{Kind: api.KSpan})
	for range 2 {
		put(t, s, api.Record{Kind: api.KLine, Trace: [16]byte{1}, Id: [8]byte{1}}, api.Record{Kind: api.KLine, Trace: [16]byte{7}, Id: [8]byte{7}})
	}
	put(t, s, api.Record{Kind: api.KPoint, Trace: [16]byte{1}, Id: [8]byte{1}}, api.Record{Kind: api.KSpan, Trace: [16]byte{7}, Id: [8]byte{7}})
	// One that is gone may come again, one that is not may not.
	long := span(t, "long", "{}", 1, 50, 9, 9)
	put(t, s, long)
	s.Cut(20)
	refused(t, s, "a span that lasts", api.ErrTwice, long)
	put(t, s, span(t, "GET", "{}", 5, 6, 1, 1))
}

// P8.2: as many as there is room for, and one more; what is old or twice is told ahead.
func TestPutFull(t *testing.T) {
	s := made(t, 3, point(t, "up", "{}", 5), span(t, "GET", "{}", 5, 6, 1, 1), line(t, "x", "{}", 1))
	refused(t, s, "one line more", api.ErrFull, line(t, "x", "{}", 9))
	refused(t, s, "one point more", api.ErrFull, point(t, "up", "{}", 9))
	refused(t, s, "one series more", api.ErrFull, point(t, "down", "{}", 9))
	refused(t, s, "one span more", api.ErrFull, span(t, "GET", "{}", 5, 6, 1, 2))
	refused(t, s, "an old point more", api.ErrOld, point(t, "up", "{}", 5))
	refused(t, s, "a span twice more", api.ErrTwice, span(t, "GET", "{}", 5, 6, 1, 1))
	refused(t, s, "no kind", api.ErrArg, api.Record{})
	refused(t, s, "no set", api.ErrKey, api.Record{Kind: api.KLine, Attrs: []api.Attr{{}}})
	if s.Cut(2) != 1 {
		t.Error("Cut(2) is not 1")
	}
	put(t, s, span(t, "GET", "{}", 5, 6, 1, 2))
	refused(t, s, "one line more", api.ErrFull, line(t, "x", "{}", 9))
}

// P8.2: a store of MaxStore records, which come in the order that is the worst for each kind.
func TestPutMaxStore(t *testing.T) {
	s := New(api.MaxStore)
	for i := range api.MaxStore {
		r := api.Record{Kind: 1 + i%3, Name: strconv.Itoa(api.MaxStore - i), T: int64(-i), To: int64(-i), Id: [8]byte{byte(i), byte(i >> 8)}}
		if e := s.Put(r); e != api.OK {
			t.Fatalf("Put of record %d = %d", i, e)
		}
	}
	if e := s.Put(api.Record{Kind: api.KLine}); e != api.ErrFull {
		t.Errorf("one more = %d", e)
	}
	l := s.Select(api.KLine, "", nil, math.MinInt64, math.MaxInt64)
	if len(l) != s.Len(api.KLine) || !slices.IsSortedFunc(l, func(a, b api.Record) int { return int(a.T - b.T) }) {
		t.Error("lines are not in order")
	}
	if n := s.Cut(1); n != api.MaxStore || s.Len(0) != 0 {
		t.Errorf("Cut = %d, Len = %d", n, s.Len(0))
	}
}

// P8.2, P9: all fields are kept as they are, whatever they are.
func TestFieldsAreKept(t *testing.T) {
	s := New(20)
	var want []api.Record
	for i, base := range []api.Record{
		{},
		{Name: "n\xff", T: -5, To: -9, V: math.MinInt64, Level: -1, Text: "\xfe\x00", Trace: [16]byte{15: 1}, Id: [8]byte{7: 2}, Parent: [8]byte{7: 3}, Attrs: set(t, `{a="1", b="2"}`)},
		{Name: strings.Repeat("x", 1<<17), T: math.MaxInt64, To: math.MinInt64, V: math.MaxInt64, Level: math.MaxInt, Text: strings.Repeat("y", 1<<17), Trace: [16]byte{1}},
	} {
		for kind := api.KPoint; kind <= api.KSpan; kind++ {
			base.Kind = kind
			put(t, s, base)
			want = append(want, base)
			l := s.Select(kind, base.Name, nil, base.T, base.T)
			if len(l) != 1 || !alike(l[0], base) {
				t.Errorf("record %d of kind %d is told as %v", i, kind, l)
			}
		}
	}
	if !slices.EqualFunc(slices.Collect(s.All()), want, alike) {
		t.Error("All tells other records")
	}
}

// alike holds records against each other by another way; a list that is nil is an empty one.
func alike(a, b api.Record) bool {
	if len(a.Attrs) == 0 && len(b.Attrs) == 0 {
		a.Attrs, b.Attrs = nil, nil
	}
	return reflect.DeepEqual(a, b)
}

// P8.2: points and lines go by T, spans by To; at the time itself they stay.
func TestCut(t *testing.T) {
	records := []api.Record{
		point(t, "up", "{}", 4), point(t, "up", "{}", 5), point(t, "up", "{}", 6),
		line(t, "x", "{}", 6), line(t, "x", "{}", 5), line(t, "x", "{}", 4),
		span(t, "GET", "{}", 1, 4, 1, 1), span(t, "GET", "{}", 1, 5, 1, 2), span(t, "GET", "{}", 9, 3, 1, 3),
	}
	for _, c := range []struct {
		before int64
		gone   int
		left   string
	}{
		{math.MinInt64, 0, "1up{}4 1up{}5 1up{}6 2x{}6 2x{}5 2x{}4 3GET{}1 3GET{}1 3GET{}9"},
		{3, 0, "1up{}4 1up{}5 1up{}6 2x{}6 2x{}5 2x{}4 3GET{}1 3GET{}1 3GET{}9"},
		{4, 1, "1up{}4 1up{}5 1up{}6 2x{}6 2x{}5 2x{}4 3GET{}1 3GET{}1"},
		{5, 4, "1up{}5 1up{}6 2x{}6 2x{}5 3GET{}1"},
		{6, 7, "1up{}6 2x{}6"},
		{7, 9, ""},
		{math.MaxInt64, 9, ""},
	} {
		s := made(t, 10, records...)
		if n := s.Cut(c.before); n != c.gone {
			t.Errorf("Cut(%d) = %d, want %d", c.before, n, c.gone)
		}
		is(t, "All", slices.Collect(s.All()), c.left)
		version := int64(len(records))
		if c.gone > 0 {
			version++
		}
		if s.Version() != version {
			t.Errorf("Cut(%d): Version = %d, want %d", c.before, s.Version(), version)
		}
		if s.Cut(c.before) != 0 || s.Version() != version {
			t.Errorf("Cut(%d) again lets something go", c.before)
		}
	}
}

// P8.4: Puts that were taken and Cuts by which something went; nothing else.
func TestVersion(t *testing.T) {
	s := New(2)
	for i, c := range []struct {
		do   func()
		want int64
	}{
		{func() { s.Put(line(t, "a", "{}", 1)) }, 1},
		{func() { s.Put(api.Record{}) }, 1},
		{func() { s.Cut(1) }, 1},
		{func() { s.Put(point(t, "a", "{}", 5)) }, 2},
		{func() { s.Put(point(t, "a", "{}", 5)) }, 2},
		{func() { s.Put(line(t, "a", "{}", 1)) }, 2},
		{func() { s.Cut(2) }, 3},
		{func() { s.Select(api.KPoint, "", nil, 0, 9) }, 3},
		{func() { s.Copy().Cut(9) }, 3},
		{func() { s.Cut(9) }, 4},
		{func() { s.Cut(9) }, 4},
	} {
		if c.do(); s.Version() != c.want {
			t.Errorf("behind step %d Version = %d, want %d", i, s.Version(), c.want)
		}
	}
}

// P8.4: a walk may end early, may be gone twice, and tells what was there when it was asked for.
func TestAll(t *testing.T) {
	s := made(t, 10, line(t, "b", "{}", 9), point(t, "a", "{}", 5), line(t, "c", "{}", 1))
	is(t, "All", slices.Collect(s.All()), "2b{}9 1a{}5 2c{}1")
	n := 0
	for range s.All() {
		if n++; n == 2 {
			break
		}
	}
	if n != 2 {
		t.Errorf("a walk that is left goes on: %d", n)
	}
	all := s.All()
	for r := range s.All() {
		r.Kind, r.Text = api.KLine, "new"
		put(t, s, r)
	}
	s.Cut(6)
	put(t, s, line(t, "d", "{}", 9), line(t, "e", "{}", 9))
	for range 2 {
		is(t, "All", slices.Collect(all), "2b{}9 1a{}5 2c{}1")
	}
	is(t, "All", slices.Collect(s.All()), "2b{}9 2new{}9 2d{}9 2e{}9")
}

// P8.4: the room, the records as they came, each field of them, and the version count.
func TestSame(t *testing.T) {
	base := []api.Record{point(t, "a", `{a="1"}`, 5), line(t, "x", "{}", 5), span(t, "GET", "{}", 5, 6, 1, 1)}
	s := made(t, 10, base...)
	if !s.Same(s) || !s.Same(made(t, 10, base...)) || !s.Same(s.Copy()) || !s.Copy().Same(s) {
		t.Error("stores that are alike")
	}
	turned := made(t, 10, base[1], base[0], base[2])
	later := made(t, 10, append([]api.Record{line(t, "q", "{}", 1)}, base...)...)
	later.Cut(2)
	for i, o := range []*Store{New(10), made(t, 11, base...), made(t, 10, base[:2]...), turned, later, made(t, 10, append(slices.Clone(base), line(t, "y", "{}", 5))...)} {
		if s.Same(o) || o.Same(s) {
			t.Errorf("store %d is the same", i)
		}
	}
	for i, change := range []func(r *api.Record){
		func(r *api.Record) { r.Kind = api.KLine }, func(r *api.Record) { r.Name = "b" }, func(r *api.Record) { r.Attrs[0].Value = "2" },
		func(r *api.Record) { r.Attrs[0].Key = "b" }, func(r *api.Record) { r.Attrs = nil }, func(r *api.Record) { r.T++ },
		func(r *api.Record) { r.To++ }, func(r *api.Record) { r.V++ }, func(r *api.Record) { r.Level++ }, func(r *api.Record) { r.Text = "t" },
		func(r *api.Record) { r.Trace[15]++ }, func(r *api.Record) { r.Id[7]++ }, func(r *api.Record) { r.Parent[7]++ },
	} {
		r := point(t, "a", `{a="1"}`, 5)
		change(&r)
		o := made(t, 10, r, base[1], base[2])
		if s.Same(o) || o.Same(s) {
			t.Errorf("a record with change %d is the same", i)
		}
	}
	empty := base[1]
	empty.Attrs = []api.Attr{}
	if !s.Same(made(t, 10, base[0], empty, base[2])) {
		t.Error("a list that is nil is not as an empty one")
	}
}

// P8.8: a copy and what it was made of go their own ways.
func TestCopy(t *testing.T) {
	base := []api.Record{point(t, "a", "{}", 5), point(t, "b", "{}", 6), line(t, "x", "{}", 5), line(t, "y", "{}", 5), span(t, "GET", "{}", 5, 6, 1, 1)}
	for i, change := range []func(s *Store){
		func(s *Store) { put(t, s, point(t, "a", "{}", 6)) },
		func(s *Store) { put(t, s, point(t, "aa", "{}", 6)) },
		func(s *Store) { put(t, s, line(t, "z", "{}", 5)) },
		func(s *Store) { put(t, s, span(t, "GET", "{}", 5, 6, 1, 2)) },
		func(s *Store) { s.Cut(6) },
		func(s *Store) { s.Cut(99) },
	} {
		for _, turned := range []bool{false, true} {
			s := made(t, 10, base...)
			c := s.Copy()
			if turned {
				s, c = c, s
			}
			was := told(c)
			change(s)
			if told(c) != was || s.Same(c) || !c.Same(made(t, 10, base...)) {
				t.Errorf("change %d is seen in the other one", i)
			}
			// The one does not know of the other's records.
			change(c)
			if !s.Same(c) || told(s) != told(c) {
				t.Errorf("change %d of both makes them unlike", i)
			}
		}
	}
}

// P8.8: two that grow on from the same lists have each its own ones, however long these are.
func TestCopyGrows(t *testing.T) {
	for n := range 9 {
		s := New(30)
		for range n {
			put(t, s, line(t, "x", "{}", 5))
		}
		c := s.Copy()
		put(t, s, line(t, "s", "{}", 5), line(t, "s", "{}", 5))
		put(t, c, line(t, "c", "{}", 5))
		is(t, "Select", s.Select(api.KLine, "", nil, 5, 5), strings.Repeat("2x{}5 ", n)+"2s{}5 2s{}5")
		is(t, "Select", c.Select(api.KLine, "", nil, 5, 5), strings.Repeat("2x{}5 ", n)+"2c{}5")
		is(t, "All", slices.Collect(s.All()), strings.Repeat("2x{}5 ", n)+"2s{}5 2s{}5")
		is(t, "All", slices.Collect(c.All()), strings.Repeat("2x{}5 ", n)+"2c{}5")
	}
}

// Rules 4 and 5: lists that are handed in or answered are nobody's but the caller's.
func TestListsAreNotShared(t *testing.T) {
	r := span(t, "GET", `{a="1"}`, 5, 6, 1, 1)
	s := made(t, 10, r)
	r.Attrs[0].Value = "!"
	want := `3GET{a="1"}5`
	spoil := func(l []api.Record) {
		for i := range l {
			l[i].Attrs[0].Value = "?"
			_ = append(l[i].Attrs, api.Attr{Key: "z", Value: "z"})
			l[i].Name = "?"
		}
	}
	c := s.Copy()
	for range 2 {
		is(t, "All", slices.Collect(s.All()), want)
		spoil(slices.Collect(s.All()))
		is(t, "Select", s.Select(api.KSpan, "", nil, 0, 9), want)
		spoil(s.Select(api.KSpan, "", nil, 0, 9))
		is(t, "Trace", s.Trace([16]byte{1}), want)
		spoil(s.Trace([16]byte{1}))
		s.Keys(api.KSpan)[0] = "?"
		s.Values(api.KSpan, "a")[0] = "?"
		if s.Keys(api.KSpan)[0] != "a" || s.Values(api.KSpan, "a")[0] != "1" {
			t.Error("what is written into an answer is seen by a later one")
		}
	}
	is(t, "a copy's All", slices.Collect(c.All()), want)
	m := []api.Matcher{{Op: api.MEq, Key: "a", Value: "1"}}
	s.Select(api.KSpan, "", m, 0, 9)
	if m[0] != (api.Matcher{Op: api.MEq, Key: "a", Value: "1"}) {
		t.Error("Select has changed its matchers")
	}
}
