package disk

import (
	"bytes"
	"math"
	"slices"
	"strconv"
	"strings"
	"testing"

	"belfry/api"
)

func keep(name string, n ...int) api.Keep {
	return api.Keep{Name: name, N: n}
}

// do appends, in order: each time a name, and its bytes; "!" in their place is a sync of it.
func do(t *testing.T, d *Disk, l ...string) {
	t.Helper()
	for i := 0; i < len(l); i += 2 {
		e := api.OK
		if l[i+1] == "!" {
			e = d.Sync(l[i])
		} else {
			e = d.Append(l[i], []byte(l[i+1]))
		}
		if e != api.OK {
			t.Fatalf("%q, %q: %d", l[i], l[i+1], e)
		}
	}
}

func made(t *testing.T, l ...string) *Disk {
	t.Helper()
	d := New()
	do(t, d, l...)
	return d
}

// has holds a file to its bytes and its length.
func has(t *testing.T, d *Disk, name, want string) {
	t.Helper()
	b, e := d.Read(name)
	n, f := d.Len(name)
	if e != api.OK || f != api.OK || string(b) != want || n != len(want) {
		t.Errorf("%s: Read = %q, %d, Len = %d, %d, want %q", name, b, e, n, f, want)
	}
}

func hasNot(t *testing.T, d *Disk, name string) {
	t.Helper()
	b, e := d.Read(name)
	n, f := d.Len(name)
	if e != api.ErrNone || f != api.ErrNone || len(b) != 0 || n != 0 {
		t.Errorf("%s: Read = %q, %d, Len = %d, %d, want ErrNone", name, b, e, n, f)
	}
}

// listed are names and lengths as Files tells them.
func listed(d *Disk) string {
	var l []string
	for name, n := range d.Files() {
		l = append(l, name+" "+strconv.Itoa(n))
	}
	return strings.Join(l, ", ")
}

// refused holds a call to its error, and to leaving the disk as it was.
func refused(t *testing.T, d *Disk, what string, want api.Errno, call func() api.Errno) {
	t.Helper()
	was := d.Copy()
	if e := call(); e != want {
		t.Errorf("%s = %d, want %d", what, e, want)
	}
	if !d.Same(was) || d.Syncs() != was.Syncs() {
		t.Errorf("%s, which is refused, has changed something", what)
	}
}

// P6.1: names of 1, 32 and 33 bytes; each byte.
func TestName(t *testing.T) {
	for _, s := range []string{"a", "z", "0", "9", ".", "..", "t0.log", "adm.ckp.new", strings.Repeat("a", 32)} {
		if !Name(s) {
			t.Errorf("Name(%q) = false", s)
		}
	}
	for _, s := range []string{"", "A", "a b", "a/b", "a-b", "_", "é", "a\x00", "a\n", strings.Repeat("a", 33), strings.Repeat("a", 1<<20)} {
		if Name(s) {
			t.Errorf("Name(%q) = true", s)
		}
	}
	for x := range 256 {
		b := byte(x)
		want := strings.IndexByte("abcdefghijklmnopqrstuvwxyz0123456789.", b) >= 0
		for _, s := range []string{string([]byte{b}), string([]byte{b, 'a'}), string([]byte{'a', b}), string([]byte{'a', b, 'a'})} {
			if Name(s) != want {
				t.Errorf("Name(%q) = %v", s, !want)
			}
		}
	}
}

// P6.1: a new disk has nothing; one that was never made by New is as one.
func TestNew(t *testing.T) {
	var zero Disk
	for _, d := range []*Disk{New(), &zero} {
		if listed(d) != "" || d.Pending() != 0 || d.Syncs() != 0 || !d.Same(New()) || !d.Same(d.Copy()) {
			t.Error("a new disk has something")
		}
		hasNot(t, d, "a")
		refused(t, d, "Sync", api.ErrNone, func() api.Errno { return d.Sync("a") })
		refused(t, d, "Cut", api.ErrNone, func() api.Errno { return d.Cut("a", 0) })
		refused(t, d, "Rename", api.ErrNone, func() api.Errno { return d.Rename("a", "b") })
		refused(t, d, "Remove", api.ErrNone, func() api.Errno { return d.Remove("a") })
		refused(t, d, "Crash", api.ErrNone, func() api.Errno { return d.Crash([]api.Keep{keep("a")}) })
		if e := d.Crash(nil); e != api.OK {
			t.Errorf("Crash = %d", e)
		}
		c := d.Copy()
		do(t, d, "a", "x")
		do(t, c, "b", "y")
		has(t, d, "a", "x")
		has(t, c, "b", "y")
	}
	if New() == New() {
		t.Error("New tells one disk twice")
	}
}

// P6.1: a disk that is nil, whatever else is wrong.
func TestNil(t *testing.T) {
	var d *Disk
	for _, name := range []string{"a", "", "A"} {
		for i, e := range []api.Errno{
			d.Append(name, nil), d.Append(name, make([]byte, api.MaxFile+1)), d.Sync(name), d.Cut(name, 0), d.Cut(name, -1),
			d.Rename(name, "b"), d.Rename(name, ""), d.Remove(name), d.Crash([]api.Keep{keep(name)}), d.Crash(nil),
		} {
			if e != api.ErrNil {
				t.Errorf("call %d of nil: %d", i, e)
			}
		}
		if b, e := d.Read(name); e != api.ErrNil || len(b) != 0 {
			t.Errorf("Read of nil = %q, %d", b, e)
		}
		if n, e := d.Len(name); e != api.ErrNil || n != 0 {
			t.Errorf("Len of nil = %d, %d", n, e)
		}
	}
	if listed(d) != "" || d.Pending() != 0 || d.Syncs() != 0 || d.Copy() != nil {
		t.Error("nil has something")
	}
	if d.Same(nil) || d.Same(New()) || New().Same(nil) {
		t.Error("nil is the same as something")
	}
}

// P6.2: bytes stand behind one another, each call one write; no bytes are none, but the file is there.
func TestAppend(t *testing.T) {
	d := made(t, "a", "")
	has(t, d, "a", "")
	if d.Pending() != 0 {
		t.Errorf("Pending = %d behind no bytes", d.Pending())
	}
	do(t, d, "a", "xy", "a", "", "b", "1", "a", "z")
	has(t, d, "a", "xyz")
	has(t, d, "b", "1")
	if d.Pending() != 3 {
		t.Errorf("Pending = %d", d.Pending())
	}
	if e := d.Append("c", nil); e != api.OK {
		t.Errorf("Append of nil = %d", e)
	}
	has(t, d, "c", "")
	// A file that is there without bytes is there behind a crash too.
	if e := d.Crash(nil); e != api.OK {
		t.Errorf("Crash = %d", e)
	}
	if g := listed(d); g != "a 0, b 0, c 0" {
		t.Errorf("Files = %s", g)
	}
}

// P6.2: names that are none.
func TestAppendName(t *testing.T) {
	d := made(t, "a", "x")
	for _, name := range []string{"", "A", "a/b", strings.Repeat("a", 33)} {
		for _, n := range []int{0, 1, api.MaxFile + 1} {
			refused(t, d, "Append", api.ErrKey, func() api.Errno { return d.Append(name, make([]byte, n)) })
		}
	}
	for _, name := range []string{"b", strings.Repeat("b", 32)} {
		if e := d.Append(name, nil); e != api.OK {
			t.Errorf("Append(%q) = %d", name, e)
		}
	}
}

// P6.2: MaxFile bytes, at once and one by one, and one more.
func TestAppendMaxFile(t *testing.T) {
	d := New()
	whole := bytes.Repeat([]byte("x"), api.MaxFile+1)
	refused(t, d, "Append", api.ErrSize, func() api.Errno { return d.Append("a", whole) })
	hasNot(t, d, "a")
	if e := d.Append("a", whole[1:]); e != api.OK {
		t.Errorf("MaxFile bytes at once: %d", e)
	}
	do(t, d, "a", "", "b", "x")
	if e := d.Append("b", whole[2:]); e != api.OK {
		t.Errorf("MaxFile bytes in two: %d", e)
	}
	for _, name := range []string{"a", "b"} {
		if n, _ := d.Len(name); n != api.MaxFile {
			t.Errorf("Len(%s) = %d", name, n)
		}
		refused(t, d, "one byte more", api.ErrSize, func() api.Errno { return d.Append(name, whole[:1]) })
		refused(t, d, "as many more", api.ErrSize, func() api.Errno { return d.Append(name, whole) })
	}
	do(t, d, "a", "!")
	d.Cut("a", api.MaxFile-1)
	do(t, d, "a", "y")
	refused(t, d, "one byte more behind a cut", api.ErrSize, func() api.Errno { return d.Append("a", whole[:1]) })
}

// P6.2: MaxFiles files, and one more; those that are there still grow.
func TestAppendMaxFiles(t *testing.T) {
	d := New()
	for i := range api.MaxFiles {
		do(t, d, "f"+strconv.Itoa(i), "")
	}
	for _, b := range [][]byte{nil, []byte("x")} {
		refused(t, d, "one file more", api.ErrFull, func() api.Errno { return d.Append("g", b) })
	}
	refused(t, d, "one file more, too long", api.ErrSize, func() api.Errno { return d.Append("g", make([]byte, api.MaxFile+1)) })
	refused(t, d, "one file more, no name", api.ErrKey, func() api.Errno { return d.Append("G", nil) })
	do(t, d, "f7", "x")
	if e := d.Rename("f7", "g"); e != api.OK {
		t.Errorf("Rename = %d", e)
	}
	refused(t, d, "a file more behind a rename", api.ErrFull, func() api.Errno { return d.Append("f7", nil) })
	if e := d.Remove("f8"); e != api.OK {
		t.Errorf("Remove = %d", e)
	}
	do(t, d, "h", "x")
	if e := d.Rename("h", "g"); e != api.OK {
		t.Errorf("Rename = %d", e)
	}
	do(t, d, "h", "x")
	refused(t, d, "one file more", api.ErrFull, func() api.Errno { return d.Append("i", nil) })
}

// P6.2: behind Sync all of a file is safe, and of no other one; how often it was done.
func TestSync(t *testing.T) {
	d := made(t, "a", "x", "a", "y", "b", "z")
	do(t, d, "a", "!")
	if d.Pending() != 1 || d.Syncs() != 1 {
		t.Errorf("Pending = %d, Syncs = %d", d.Pending(), d.Syncs())
	}
	do(t, d, "a", "!", "b", "!")
	if d.Pending() != 0 || d.Syncs() != 3 {
		t.Errorf("Pending = %d, Syncs = %d", d.Pending(), d.Syncs())
	}
	for _, name := range []string{"c", "", "A"} {
		refused(t, d, "Sync", api.ErrNone, func() api.Errno { return d.Sync(name) })
	}
	has(t, d, "a", "xy")
	d.Crash(nil)
	has(t, d, "a", "xy")
	has(t, d, "b", "z")
	if d.Syncs() != 3 {
		t.Errorf("Syncs = %d behind a crash", d.Syncs())
	}
}

// P6.3: a file cut anywhere, with writes that are not safe, has its first bytes, all of them safe.
func TestCut(t *testing.T) {
	for n := range 8 {
		d := made(t, "a", "ab", "a", "!", "a", "cd", "a", "efg", "b", "x")
		if e := d.Cut("a", n); e != api.OK {
			t.Errorf("Cut(%d) = %d", n, e)
		}
		has(t, d, "a", "abcdefg"[:n])
		if d.Pending() != 1 {
			t.Errorf("Cut(%d): Pending = %d", n, d.Pending())
		}
		do(t, d, "a", "z")
		has(t, d, "a", "abcdefg"[:n]+"z")
		if e := d.Crash([]api.Keep{keep("b", 1)}); e != api.OK {
			t.Errorf("Crash = %d", e)
		}
		has(t, d, "a", "abcdefg"[:n])
		has(t, d, "b", "x")
	}
	d := made(t, "a", "abc", "b", "")
	for _, n := range []int{-1, 4, math.MinInt, math.MaxInt} {
		refused(t, d, "Cut", api.ErrArg, func() api.Errno { return d.Cut("a", n) })
		refused(t, d, "Cut", api.ErrNone, func() api.Errno { return d.Cut("c", n) })
		refused(t, d, "Cut", api.ErrNone, func() api.Errno { return d.Cut("", n) })
	}
	refused(t, d, "Cut", api.ErrArg, func() api.Errno { return d.Cut("b", 1) })
	if e := d.Cut("b", 0); e != api.OK {
		t.Errorf("Cut of an empty file at 0 = %d", e)
	}
}

// P6.3: a file's writes that are not safe go with it; those of the file in whose place it stands are gone.
func TestRename(t *testing.T) {
	d := made(t, "a", "ab", "a", "!", "a", "cd", "a", "ef", "b", "xyz", "c", "1")
	if e := d.Rename("a", "b"); e != api.OK {
		t.Errorf("Rename = %d", e)
	}
	hasNot(t, d, "a")
	has(t, d, "b", "abcdef")
	has(t, d, "c", "1")
	if d.Pending() != 3 || listed(d) != "b 6, c 1" {
		t.Errorf("Pending = %d, Files = %s", d.Pending(), listed(d))
	}
	c := d.Copy()
	if e := d.Rename("b", "b"); e != api.OK || !d.Same(c) {
		t.Errorf("Rename to itself = %d", e)
	}
	refused(t, d, "three writes kept", api.ErrArg, func() api.Errno { return d.Crash([]api.Keep{keep("b", 1, 1, 1)}) })
	if e := d.Crash([]api.Keep{keep("b", 1, 1)}); e != api.OK {
		t.Errorf("Crash = %d", e)
	}
	has(t, d, "b", "abc\x00e")
	if e := d.Rename("b", strings.Repeat("b", 32)); e != api.OK {
		t.Errorf("Rename to a long name = %d", e)
	}
	for _, to := range []string{"", "B", strings.Repeat("b", 33)} {
		refused(t, d, "Rename", api.ErrKey, func() api.Errno { return d.Rename("c", to) })
		refused(t, d, "Rename", api.ErrNone, func() api.Errno { return d.Rename("q", to) })
	}
	for _, from := range []string{"", "B", "a"} {
		refused(t, d, "Rename", api.ErrNone, func() api.Errno { return d.Rename(from, "c") })
		refused(t, d, "Rename", api.ErrNone, func() api.Errno { return d.Rename(from, from) })
	}
}

// P6.3: renames and removals are safe at once.
func TestSafeAtOnce(t *testing.T) {
	d := made(t, "a", "x", "a", "!", "b", "y", "b", "!", "c", "z")
	d.Rename("a", "d")
	d.Remove("b")
	d.Crash(nil)
	if g := listed(d); g != "c 0, d 1" {
		t.Errorf("Files = %s", g)
	}
}

// P6.3: what is removed is gone, with its writes; it may come again.
func TestRemove(t *testing.T) {
	d := made(t, "a", "x", "b", "y")
	if e := d.Remove("a"); e != api.OK || d.Pending() != 1 || listed(d) != "b 1" {
		t.Errorf("Remove = %d, Pending = %d, Files = %s", e, d.Pending(), listed(d))
	}
	hasNot(t, d, "a")
	for _, name := range []string{"a", "", "A"} {
		refused(t, d, "Remove", api.ErrNone, func() api.Errno { return d.Remove(name) })
	}
	do(t, d, "a", "z")
	has(t, d, "a", "z")
}

// P6.5: names in their order, byte by byte, with lengths; a walk may end early, and tells what was there when it was asked for.
func TestFiles(t *testing.T) {
	d := made(t, "b", "xx", "a", "", "a.b", "x", "ab", "xxx", "a0", "xxxx", "9", "x", ".", "x")
	if g := listed(d); g != ". 1, 9 1, a 0, a.b 1, a0 4, ab 3, b 2" {
		t.Errorf("Files = %s", g)
	}
	n := 0
	for range d.Files() {
		if n++; n == 3 {
			break
		}
	}
	if n != 3 {
		t.Errorf("a walk that is left goes on: %d", n)
	}
	all := d.Files()
	d.Remove("b")
	do(t, d, "a", "y", "c", "y")
	for range 2 {
		var l []string
		for name, n := range all {
			l = append(l, name+strconv.Itoa(n))
		}
		if !slices.Equal(l, []string{".1", "91", "a0", "a.b1", "a04", "ab3", "b2"}) {
			t.Errorf("Files tells %v", l)
		}
	}
	for name := range d.Files() {
		d.Remove(name)
	}
	if listed(d) != "" {
		t.Errorf("Files = %s", listed(d))
	}
}

// P6.5: files, bytes and writes that are not safe count; nothing else does.
func TestSame(t *testing.T) {
	base := []string{"a", "xy", "a", "z", "b", "!"}
	base = slices.Insert(base, 0, "b", "1")
	d := made(t, base...)
	if !d.Same(d) || !d.Same(made(t, base...)) || !d.Same(d.Copy()) {
		t.Error("disks that are alike")
	}
	more := made(t, append(slices.Clone(base), "b", "!")...)
	if !d.Same(more) || !more.Same(d) || d.Syncs() == more.Syncs() {
		t.Error("how often Sync was done counts")
	}
	for i, o := range []*Disk{
		New(),
		made(t, "a", "xy", "a", "z"),
		made(t, append(slices.Clone(base), "c", "")...),
		made(t, append(slices.Clone(base), "a", "!")...),
		made(t, append(slices.Clone(base), "b", "2")...),
		made(t, "b", "1", "a", "x", "a", "yz", "b", "!"),
		made(t, "b", "1", "a", "xyz", "b", "!"),
		made(t, "b", "1", "a", "x", "a", "y", "a", "z", "b", "!"),
		made(t, "b", "1", "a", "xq", "a", "z", "b", "!"),
		made(t, "b", "1", "a", "xy", "a", "z"),
		made(t, "c", "1", "a", "xy", "a", "z", "c", "!"),
		made(t, "b", "1", "a", "xy", "a", "zz", "b", "!"),
	} {
		if d.Same(o) || o.Same(d) {
			t.Errorf("disk %d is the same", i)
		}
	}
}

// P6.8: a copy and what it was made of go their own ways.
func TestCopy(t *testing.T) {
	for i, change := range []func(d *Disk){
		func(d *Disk) { d.Append("a", []byte("q")) },
		func(d *Disk) { d.Append("c", nil) },
		func(d *Disk) { d.Sync("a") },
		func(d *Disk) { d.Cut("a", 1) },
		func(d *Disk) { d.Cut("a", 1); d.Append("a", []byte("qqqq")) },
		func(d *Disk) { d.Rename("a", "b") },
		func(d *Disk) { d.Remove("a") },
		func(d *Disk) { d.Crash([]api.Keep{keep("a", 0, 1)}) },
	} {
		for _, turned := range []bool{false, true} {
			d := made(t, "a", "xy", "b", "1", "b", "!", "a", "z")
			c := d.Copy()
			if !c.Same(d) || c.Syncs() != 1 || c.Pending() != 2 {
				t.Fatal("a copy is another one")
			}
			if turned {
				d, c = c, d
			}
			change(d)
			if d.Same(c) || !c.Same(made(t, "a", "xy", "b", "1", "b", "!", "a", "z")) || c.Syncs() != 1 {
				t.Errorf("change %d is seen in the other one", i)
			}
			// Both grow at the same place.
			d = c.Copy()
			do(t, d, "a", "dd")
			do(t, c, "a", "cc")
			has(t, d, "a", "xyzdd")
			has(t, c, "a", "xyzcc")
		}
	}
}

// P6.8: two that grow on from the same writes have each its own ones.
func TestCopyOfWrites(t *testing.T) {
	for n := range 9 {
		d := New()
		for range n {
			do(t, d, "a", "x")
		}
		c := d.Copy()
		do(t, d, "a", "dd", "a", "d")
		do(t, c, "a", "c", "a", "cc")
		numbers := slices.Repeat([]int{1}, n+2)
		d.Crash([]api.Keep{keep("a", numbers...)})
		c.Crash([]api.Keep{keep("a", numbers...)})
		has(t, d, "a", strings.Repeat("x", n)+"d\x00d")
		has(t, c, "a", strings.Repeat("x", n)+"cc")
	}
}

// Rules 4 and 5: bytes that are handed in or answered are nobody's but the caller's.
func TestBytesAreNotShared(t *testing.T) {
	b := []byte("abc")
	d := New()
	d.Append("a", b)
	b[0] = 'x'
	has(t, d, "a", "abc")
	g, _ := d.Read("a")
	g[1] = 'x'
	_ = append(g, "yyyyyyyyyyyyyyyyyyyyyy"...)
	has(t, d, "a", "abc")
	do(t, d, "a", "d")
	n := []int{1, 1}
	l := []api.Keep{{Name: "a", N: n}}
	d.Crash(l)
	if n[0] != 1 || n[1] != 1 || l[0].Name != "a" {
		t.Error("Crash has changed its list")
	}
}
