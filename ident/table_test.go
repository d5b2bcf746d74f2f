package ident

import (
	"math"
	"math/rand"
	"slices"
	"testing"

	"belfry/api"
)

const annText = "belfry:acme/ann"

func numbersOf(t *Table, tenant string) []int64 {
	return slices.Collect(t.Of(tenant))
}

// filled is a table with as many sessions as there can be, each over at 10.
func filled(t *testing.T) *Table {
	t.Helper()
	x := New()
	for i := range int64(MaxSessions) {
		if n, e := x.Open(annText, 0, 10); n != i+1 || e != api.OK {
			t.Fatalf("Open = %d, %d", n, e)
		}
	}
	return x
}

// P10.2: a nil table.
func TestNilTable(t *testing.T) {
	var x *Table
	if n, e := x.Open("", -1, 0); n != 0 || e != api.ErrNil {
		t.Errorf("Open = %d, %d", n, e)
	}
	if i, e := x.Who(1, 0); i != (api.Ident{}) || e != api.ErrNil {
		t.Errorf("Who = %v, %d", i, e)
	}
	if x.Renew(1, -1, 0) != api.ErrNil || x.Close(1) != api.ErrNil || x.Expire(0) != 0 || x.Len() != 0 || numbersOf(x, "acme") != nil {
		t.Error("a nil table tells something")
	}
}

// P10.2: a table that New did not make is as one that it made.
func TestZeroTable(t *testing.T) {
	var x Table
	if x.Len() != 0 || x.Expire(math.MaxInt64) != 0 || x.Close(0) != api.ErrNone || x.Renew(0, 0, 1) != api.ErrNone || numbersOf(&x, "") != nil {
		t.Error("a table's zero value has sessions")
	}
	if n, e := x.Open(annText, 0, 1); n != 1 || e != api.OK {
		t.Errorf("Open = %d, %d", n, e)
	}
}

// P10.2: Open's and Renew's errors in their order, and that a refused call changes nothing, not even the next number.
func TestSpans(t *testing.T) {
	wrong := []struct{ now, span int64 }{
		{-1, 1}, {math.MinInt64, 1}, {api.MaxTime + 1, 1}, {math.MaxInt64, 1},
		{0, 0}, {0, -1}, {0, math.MinInt64}, {0, api.MaxTime + 1}, {0, math.MaxInt64}, {-1, 0}, {math.MaxInt64, math.MaxInt64},
	}
	full := filled(t)
	for _, w := range wrong {
		x := New()
		x.Open(annText, 0, 5)
		for _, y := range []*Table{x, full} {
			if n, e := y.Open("belfry:a", w.now, w.span); n != 0 || e != api.ErrIdent {
				t.Errorf("Open of nobody at %d, %d = %d, %d", w.now, w.span, n, e)
			}
			if n, e := y.Open(annText, w.now, w.span); n != 0 || e != api.ErrArg {
				t.Errorf("Open at %d, %d = %d, %d", w.now, w.span, n, e)
			}
			for _, id := range []int64{1, 99} {
				if e := y.Renew(id, w.now, w.span); e != api.ErrArg {
					t.Errorf("Renew(%d) at %d, %d = %d", id, w.now, w.span, e)
				}
			}
		}
		if _, e := x.Who(1, 5); e != api.ErrNone {
			t.Error("a refused Renew changed a session")
		}
		if n, e := x.Open(annText, 0, 1); n != 2 || e != api.OK || x.Len() != 2 {
			t.Errorf("Open behind a refused one = %d, %d", n, e)
		}
	}
}

// P10.2, P10.4: the time at which a session is over, at its edges.
func TestEnds(t *testing.T) {
	for _, c := range []struct{ now, span, end int64 }{
		{0, 1, 1}, {5, 10, 15}, {0, api.MaxTime, api.MaxTime}, {1, api.MaxTime, api.MaxTime}, {api.MaxTime - 1, 1, api.MaxTime},
		{api.MaxTime - 1, 2, api.MaxTime}, {api.MaxTime, 1, api.MaxTime}, {api.MaxTime, api.MaxTime, api.MaxTime}, {api.MaxTime - 5, 3, api.MaxTime - 2},
	} {
		opened, renewed := New(), New()
		opened.Open(annText, c.now, c.span)
		renewed.Open(annText, 0, api.MaxTime)
		if e := renewed.Renew(1, c.now, c.span); c.now < api.MaxTime && e != api.OK {
			t.Errorf("Renew at %d, %d = %d", c.now, c.span, e)
		}
		for _, x := range []*Table{opened, renewed} {
			for _, now := range []int64{math.MinInt64, -1, 0, c.end - 1} {
				if i, e := x.Who(1, now); i != ann || e != api.OK {
					t.Errorf("at %d, %d: Who at %d = %v, %d", c.now, c.span, now, i, e)
				}
			}
			for _, now := range []int64{c.end, c.end + 1, math.MaxInt64} {
				if i, e := x.Who(1, now); i != (api.Ident{}) || e != api.ErrNone {
					t.Errorf("at %d, %d: Who at %d = %v, %d", c.now, c.span, now, i, e)
				}
			}
			if n := x.Expire(c.end - 1); n != 0 || x.Len() != 1 {
				t.Errorf("at %d, %d: Expire ahead of the end = %d", c.now, c.span, n)
			}
			if n := x.Expire(c.end); n != 1 || x.Len() != 0 {
				t.Errorf("at %d, %d: Expire at the end = %d", c.now, c.span, n)
			}
		}
	}
}

// P10.2: a session whose time is over is there no more for Who and Renew, but counts, and can be closed.
func TestOverButKept(t *testing.T) {
	x := New()
	x.Open(annText, 0, 10)
	if e := x.Renew(1, 10, 5); e != api.ErrNone {
		t.Errorf("Renew of one that is over = %d", e)
	}
	if x.Len() != 1 || !slices.Equal(numbersOf(x, "acme"), []int64{1}) {
		t.Error("one that is over does not count")
	}
	if e := x.Renew(1, 9, 1); e != api.OK {
		t.Errorf("Renew of one that is not over = %d", e)
	}
	if e := x.Renew(1, 9, 5); e != api.OK {
		t.Errorf("Renew again = %d", e)
	}
	if _, e := x.Who(1, 13); e != api.OK {
		t.Errorf("Who behind Renew = %d", e)
	}
	if e := x.Renew(1, 0, 1); e != api.OK {
		t.Errorf("Renew to less = %d", e)
	}
	if _, e := x.Who(1, 1); e != api.ErrNone {
		t.Errorf("Who behind Renew to less = %d", e)
	}
	if e := x.Close(1); e != api.OK || x.Len() != 0 {
		t.Errorf("Close of one that is over = %d", e)
	}
	if x.Close(1) != api.ErrNone || x.Close(0) != api.ErrNone || x.Close(-1) != api.ErrNone || x.Close(math.MaxInt64) != api.ErrNone || x.Renew(1, 0, 1) != api.ErrNone {
		t.Error("one that is gone is there")
	}
}

// P10.2, P10.5: 64 sessions, whether their time is over or not; there is room when one goes, and its number does not come again.
func TestFull(t *testing.T) {
	if MaxSessions != 64 {
		t.Fatal("MaxSessions")
	}
	x := filled(t)
	for _, now := range []int64{0, 10, api.MaxTime} {
		if n, e := x.Open("belfry:b/c", now, 1); n != 0 || e != api.ErrFull || x.Len() != 64 {
			t.Errorf("Open of the 65th at %d = %d, %d", now, n, e)
		}
	}
	x.Close(64)
	if n, e := x.Open("belfry:b/c", 0, 20); n != 65 || e != api.OK {
		t.Errorf("Open in the place of the 64th = %d, %d", n, e)
	}
	if n, e := x.Open("belfry:b/c", 0, 1); n != 0 || e != api.ErrFull {
		t.Errorf("Open of one more = %d, %d", n, e)
	}
	if n := x.Expire(10); n != 63 || !slices.Equal(numbersOf(x, "b"), []int64{65}) || len(numbersOf(x, "acme")) != 0 {
		t.Errorf("Expire = %d", n)
	}
	if n, e := x.Open(annText, 0, 1); n != 66 || e != api.OK {
		t.Errorf("Open behind Expire = %d, %d", n, e)
	}
	x.Expire(math.MaxInt64)
	if n, e := x.Open(annText, 0, 1); n != 67 || e != api.OK || x.Len() != 1 {
		t.Errorf("Open in an empty table = %d, %d", n, e)
	}
}

// P10.2: Of is left where its reader leaves it, begins again, and tells what there was when it was called.
func TestOf(t *testing.T) {
	x := New()
	for _, s := range []string{annText, "belfry:b/ann", annText, "belfry:acme/bob#admin"} {
		x.Open(s, 0, 9)
	}
	all := x.Of("acme")
	for n := range all {
		if n != 1 {
			t.Fatalf("the first one of acme is %d", n)
		}
		break
	}
	for n := range all {
		x.Close(n)
		x.Open(annText, 0, 9)
	}
	if !slices.Equal(slices.Collect(all), []int64{1, 3, 4}) || !slices.Equal(numbersOf(x, "acme"), []int64{5, 6, 7}) {
		t.Errorf("Of = %v, then %v", slices.Collect(all), numbersOf(x, "acme"))
	}
	for _, s := range []string{"", "c", "ann", "Acme", "acme/ann"} {
		if l := numbersOf(x, s); len(l) != 0 {
			t.Errorf("Of(%q) = %v", s, l)
		}
	}
}

// kept is a session of the model.
type kept struct {
	who   api.Ident
	until int64
}

// P10.2, P10.4, P10.5: any calls, against a model.
func TestTableModel(t *testing.T) {
	peers := []string{annText, "belfry:acme/bob#admin", "belfry:b/c", "belfry:nobody"}
	for seed := range int64(20) {
		r := rand.New(rand.NewSource(seed))
		x, model, last, now := New(), map[int64]kept{}, int64(0), int64(0)
		for range 3000 {
			now += r.Int63n(3)
			id, span := last-r.Int63n(90), r.Int63n(200)-2
			s, is := model[id]
			there := is && now < s.until
			switch r.Intn(12) {
			default:
				peer := peers[r.Intn(len(peers))]
				who, want, _ := Parse(peer)
				if want == api.OK && span < 1 {
					want = api.ErrArg
				} else if want == api.OK && len(model) == 64 {
					want = api.ErrFull
				}
				n, e := x.Open(peer, now, span)
				if want == api.OK {
					last++
					model[last] = kept{who, now + span}
				}
				if e != want || e == api.OK && n != last || e != api.OK && n != 0 {
					t.Fatalf("Open(%q, %d, %d) = %d, %d, want %d", peer, now, span, n, e, want)
				}
			case 0:
				want := api.OK
				if span < 1 {
					want = api.ErrArg
				} else if !there {
					want = api.ErrNone
				} else {
					model[id] = kept{s.who, now + span}
				}
				if e := x.Renew(id, now, span); e != want {
					t.Fatalf("Renew(%d, %d, %d) = %d, want %d", id, now, span, e, want)
				}
			case 1, 2:
				if e := x.Close(id); (e == api.OK) != is || !is && e != api.ErrNone {
					t.Fatalf("Close(%d) = %d", id, e)
				}
				delete(model, id)
			case 3:
				want := 0
				for n, s := range model {
					if now >= s.until {
						delete(model, n)
						want++
					}
				}
				if n := x.Expire(now); n != want {
					t.Fatalf("Expire(%d) = %d, want %d", now, n, want)
				}
			}
			checkTable(t, x, model, id, now)
		}
	}
}

// checkTable holds a table to a model, with a look at one session.
func checkTable(t *testing.T, x *Table, model map[int64]kept, id, now int64) {
	t.Helper()
	s, is := model[id]
	who, e := x.Who(id, now)
	if is && now < s.until {
		if who != s.who || e != api.OK {
			t.Fatalf("Who(%d, %d) = %v, %d, want %v", id, now, who, e, s.who)
		}
	} else if who != (api.Ident{}) || e != api.ErrNone {
		t.Fatalf("Who(%d, %d) = %v, %d, want none", id, now, who, e)
	}
	if x.Len() != len(model) || x.Len() > 64 {
		t.Fatalf("Len() = %d, want %d", x.Len(), len(model))
	}
	for _, tenant := range []string{"acme", "b", "none"} {
		var want []int64
		for n, s := range model {
			if s.who.Tenant == tenant {
				want = append(want, n)
			}
		}
		slices.Sort(want)
		if l := numbersOf(x, tenant); !slices.Equal(l, want) {
			t.Fatalf("Of(%q) = %v, want %v", tenant, l, want)
		}
	}
}
