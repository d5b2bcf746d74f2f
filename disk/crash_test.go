package disk

import (
	"bytes"
	"math"
	"math/rand"
	"slices"
	"strconv"
	"testing"

	"belfry/api"
)

// P6.4: crashes that keep all, some and none of the writes, with bytes 0 between them.
func TestCrash(t *testing.T) {
	for _, c := range []struct {
		n    []int
		want string
	}{
		{nil, "abc"},
		{[]int{}, "abc"},
		{[]int{0}, "abc"},
		{[]int{1}, "abcd"},
		{[]int{2}, "abcde"},
		{[]int{3}, "abcde"},
		{[]int{math.MaxInt}, "abcde"},
		{[]int{0, 2}, "abc\x00\x00fg"},
		{[]int{1, 2}, "abcd\x00fg"},
		{[]int{1, 0}, "abcd"},
		{[]int{2, 3}, "abcdefgh"},
		{[]int{2, 0, 1}, "abcde\x00\x00\x00i"},
		{[]int{0, 0, 1}, "abc\x00\x00\x00\x00\x00i"},
		{[]int{0, 1, 0}, "abc\x00\x00f"},
		{[]int{0, 0, 0}, "abc"},
		{[]int{1, 1, 1}, "abcd\x00f\x00\x00i"},
		{[]int{9, 9, 9}, "abcdefghi"},
		{[]int{math.MaxInt, math.MaxInt, math.MaxInt}, "abcdefghi"},
	} {
		d := made(t, "a", "abc", "a", "!", "a", "de", "a", "", "a", "fgh", "a", "i")
		if e := d.Crash([]api.Keep{{Name: "a", N: c.n}}); e != api.OK {
			t.Errorf("Crash(a: %v) = %d", c.n, e)
		}
		has(t, d, "a", c.want)
		if d.Pending() != 0 || d.Syncs() != 1 {
			t.Errorf("Crash(a: %v): Pending = %d, Syncs = %d", c.n, d.Pending(), d.Syncs())
		}
	}
}

// P6.4: a file that was never safe, one that is all safe, and one that is not named.
func TestCrashOfMany(t *testing.T) {
	d := made(t, "a", "ab", "b", "cd", "b", "!", "c", "ef", "c", "!", "c", "gh", "d", "", "e", "ij", "e", "kl")
	if e := d.Crash([]api.Keep{keep("e", 0, 1), keep("a", 1), keep("b"), keep("d")}); e != api.OK {
		t.Errorf("Crash = %d", e)
	}
	has(t, d, "a", "a")
	has(t, d, "b", "cd")
	has(t, d, "c", "ef")
	has(t, d, "d", "")
	has(t, d, "e", "\x00\x00k")
	if d.Pending() != 0 {
		t.Errorf("Pending = %d", d.Pending())
	}
}

// P6.4: behind a crash a file grows where it ended, and zeros that were left are safe.
func TestCrashAndOn(t *testing.T) {
	d := made(t, "a", "ab", "a", "cd", "a", "ef")
	d.Crash([]api.Keep{keep("a", 0, 1)})
	do(t, d, "a", "gh", "a", "ij")
	if d.Pending() != 2 {
		t.Errorf("Pending = %d", d.Pending())
	}
	has(t, d, "a", "\x00\x00cghij")
	d.Crash([]api.Keep{keep("a", 1, 1)})
	has(t, d, "a", "\x00\x00cg\x00i")
	d.Crash(nil)
	has(t, d, "a", "\x00\x00cg\x00i")
}

// P6.4: the first Keep at fault tells the error, and its errors in their order; nothing changes.
func TestCrashFaults(t *testing.T) {
	d := made(t, "a", "abc", "a", "!", "a", "de", "a", "fgh", "b", "x", "c", "")
	for _, c := range []struct {
		e api.Errno
		l []api.Keep
	}{
		{api.ErrNone, []api.Keep{keep("q")}},
		{api.ErrNone, []api.Keep{keep("")}},
		{api.ErrNone, []api.Keep{keep("A", -1)}},
		{api.ErrNone, []api.Keep{keep("a", 1), keep("q")}},
		{api.ErrNone, []api.Keep{keep("q"), keep("q")}},
		{api.ErrNone, []api.Keep{keep("q"), keep("a", -1)}},
		{api.ErrNone, []api.Keep{keep("a", 1), keep("q"), keep("a", 1)}},
		{api.ErrTwice, []api.Keep{keep("a"), keep("a")}},
		{api.ErrTwice, []api.Keep{keep("a", 1), keep("b"), keep("a", 1)}},
		{api.ErrTwice, []api.Keep{keep("a"), keep("a", -1)}},
		{api.ErrTwice, []api.Keep{keep("a"), keep("a", 1, 1, 1)}},
		{api.ErrTwice, []api.Keep{keep("a"), keep("a"), keep("q")}},
		{api.ErrTwice, []api.Keep{keep("c"), keep("c"), keep("a", -1)}},
		{api.ErrArg, []api.Keep{keep("a", -1)}},
		{api.ErrArg, []api.Keep{keep("a", 1, -1)}},
		{api.ErrArg, []api.Keep{keep("a", math.MinInt)}},
		{api.ErrArg, []api.Keep{keep("a", 1, 1, 1)}},
		{api.ErrArg, []api.Keep{keep("a", 0, 0, 0)}},
		{api.ErrArg, []api.Keep{keep("c", 0)}},
		{api.ErrArg, []api.Keep{keep("b", 1, 1)}},
		{api.ErrArg, []api.Keep{keep("b", 1), keep("a", -1)}},
		{api.ErrArg, []api.Keep{keep("a", -1), keep("a")}},
		{api.ErrArg, []api.Keep{keep("a", -1), keep("q")}},
	} {
		refused(t, d, "Crash", c.e, func() api.Errno { return d.Crash(c.l) })
	}
	d.Sync("b")
	refused(t, d, "a write that was synced", api.ErrArg, func() api.Errno { return d.Crash([]api.Keep{keep("b", 0)}) })
	d.Cut("a", 8)
	refused(t, d, "writes of a file that was cut", api.ErrArg, func() api.Errno { return d.Crash([]api.Keep{keep("a", 0)}) })
}

// page is a file of the model: each byte with what it came by, all that was ever written and is not gone.
type page struct {
	safe   []byte
	writes [][]byte
}

func (p *page) all() []byte {
	return append(bytes.Clone(p.safe), bytes.Join(p.writes, nil)...)
}

// kept is what a crash leaves: each byte of a write is there or 0, and the end is the last one that is there.
func (p *page) kept(n []int) []byte {
	out := bytes.Clone(p.safe)
	var gap []byte
	for i, w := range p.writes {
		m := 0
		if i < len(n) {
			m = min(n[i], len(w))
		}
		if m > 0 {
			out = append(append(out, gap...), w[:m]...)
			gap = nil
		}
		gap = append(gap, make([]byte, len(w)-m)...)
	}
	return out
}

type shelf map[string]*page

func (s shelf) pending() int {
	n := 0
	for _, p := range s {
		n += len(p.writes)
	}
	return n
}

func (s shelf) check(t *testing.T, d *Disk) {
	t.Helper()
	var names []string
	for name, n := range d.Files() {
		names = append(names, name)
		b, _ := d.Read(name)
		p := s[name]
		if p == nil || !bytes.Equal(b, p.all()) || n != len(b) {
			t.Fatalf("file %s is %q, want %+v", name, b, p)
		}
	}
	if len(names) != len(s) || !slices.IsSorted(names) || d.Pending() != s.pending() {
		t.Fatalf("files %v, Pending %d, want %d files, %d", names, d.Pending(), len(s), s.pending())
	}
}

// keeps are a Keep for some of the files, in any order.
func (s shelf) keeps(r *rand.Rand) []api.Keep {
	var l []api.Keep
	for i := range 6 {
		name := "f" + strconv.Itoa(i)
		p, ok := s[name]
		if !ok || r.Intn(3) == 0 {
			continue
		}
		k := keep(name)
		for range r.Intn(len(p.writes) + 1) {
			k.N = append(k.N, r.Intn(6))
		}
		l = append(l, k)
	}
	r.Shuffle(len(l), func(i, j int) { l[i], l[j] = l[j], l[i] })
	return l
}

// step does one thing to the disk and to the model.
func (s shelf) step(t *testing.T, r *rand.Rand, d *Disk) {
	name, other := "f"+strconv.Itoa(r.Intn(6)), "f"+strconv.Itoa(r.Intn(6))
	p := s[name]
	want := api.OK
	if p == nil {
		want = api.ErrNone
	}
	var e api.Errno
	switch r.Intn(12) {
	default:
		b := make([]byte, r.Intn(5))
		for i := range b {
			b[i] = byte('a' + r.Intn(26))
		}
		e, want = d.Append(name, b), api.OK
		if p == nil {
			p = &page{}
			s[name] = p
		}
		if len(b) > 0 {
			p.writes = append(p.writes, b)
		}
	case 0:
		if e = d.Sync(name); p != nil {
			s[name] = &page{safe: p.all()}
		}
	case 1:
		n := r.Intn(8)
		if e = d.Cut(name, n); p != nil {
			if n > len(p.all()) {
				want = api.ErrArg
			} else {
				s[name] = &page{safe: p.all()[:n]}
			}
		}
	case 2:
		if e = d.Rename(name, other); p != nil {
			delete(s, name)
			s[other] = p
		}
	case 3:
		e = d.Remove(name)
		delete(s, name)
	case 4:
		l := s.keeps(r)
		e, want = d.Crash(l), api.OK
		numbers := map[string][]int{}
		for _, k := range l {
			numbers[k.Name] = k.N
		}
		for x, p := range s {
			s[x] = &page{safe: p.kept(numbers[x])}
		}
	}
	if e != want {
		t.Fatalf("a call answers %d, want %d", e, want)
	}
}

// P6.2 to P6.5, P6.9: whatever is done in whatever order, the disk is as the model.
func TestAsTheModel(t *testing.T) {
	for seed := range int64(400) {
		r := rand.New(rand.NewSource(seed))
		d, s := New(), shelf{}
		for range 150 {
			s.step(t, r, d)
			s.check(t, d)
		}
	}
}

// P6.6, P6.7: behind any crash what was safe is there, of files whose writes are all kept everything; and a second crash changes nothing.
func TestWhatACrashLeaves(t *testing.T) {
	r := rand.New(rand.NewSource(1))
	for range 2000 {
		d, s := New(), shelf{}
		for range 30 {
			s.step(t, r, d)
		}
		l := s.keeps(r)
		for i, k := range l {
			if r.Intn(3) == 0 {
				l[i].N = slices.Repeat([]int{1000}, len(s[k.Name].writes))
			}
		}
		if e := d.Crash(l); e != api.OK {
			t.Fatalf("Crash = %d", e)
		}
		for name, p := range s {
			b, e := d.Read(name)
			if e != api.OK || !bytes.HasPrefix(b, p.safe) || len(b) > len(p.all()) {
				t.Fatalf("%s: %q, %d behind a crash, safe was %q", name, b, e, p.safe)
			}
			for _, k := range l {
				if k.Name == name && len(k.N) == len(p.writes) && slices.IndexFunc(k.N, func(n int) bool { return n < 5 }) < 0 && !bytes.Equal(b, p.all()) {
					t.Fatalf("%s: all was kept, and %q is there of %q", name, b, p.all())
				}
			}
		}
		if d.Pending() != 0 {
			t.Fatalf("Pending = %d", d.Pending())
		}
		was := d.Copy()
		if e := d.Crash(nil); e != api.OK || !d.Same(was) {
			t.Fatalf("a second Crash = %d, and changes something", e)
		}
	}
}

// P6.9: what is done to one file changes no other one, nor its writes.
func TestOneFileAlone(t *testing.T) {
	r := rand.New(rand.NewSource(2))
	calls := []func(d *Disk, name string) api.Errno{
		func(d *Disk, name string) api.Errno { return d.Append(name, []byte("xyz")) },
		func(d *Disk, name string) api.Errno { return d.Append(name, nil) },
		func(d *Disk, name string) api.Errno { return d.Sync(name) },
		func(d *Disk, name string) api.Errno { return d.Cut(name, 1) },
		func(d *Disk, name string) api.Errno { return d.Rename(name, "c") },
		func(d *Disk, name string) api.Errno { return d.Rename("c", name) },
		func(d *Disk, name string) api.Errno { return d.Remove(name) },
	}
	for range 200 {
		d := made(t, "own", "ab", "own", "!", "own", "cd", "own", "e")
		for range 40 {
			calls[r.Intn(len(calls))](d, []string{"a", "b", "c"}[r.Intn(3)])
			has(t, d, "own", "abcde")
		}
		if e := d.Crash([]api.Keep{keep("own", 1, 1)}); e != api.OK {
			t.Fatalf("Crash = %d", e)
		}
		has(t, d, "own", "abc\x00e")
	}
}
