package wal

import (
	"bytes"
	"math"
	"slices"
	"strconv"
	"strings"
	"testing"

	"belfry/api"
	"belfry/disk"
)

// file lays a file on a disk, all of it safe.
func file(t *testing.T, d *disk.Disk, name string, b []byte) {
	t.Helper()
	if d.Append(name, b) != api.OK || d.Sync(name) != api.OK {
		t.Fatalf("no file %s", name)
	}
}

// holds holds a disk's file to its bytes; nil: there is none.
func holds(t *testing.T, d *disk.Disk, name string, want []byte) {
	t.Helper()
	b, e := d.Read(name)
	if (e == api.ErrNone) != (want == nil) || !bytes.Equal(b, want) {
		t.Errorf("file %s = % x, %d, want % x", name, b, e, want)
	}
}

func opened(t *testing.T, d *disk.Disk, name string) *Log {
	t.Helper()
	l, e := Open(d, name)
	if e != api.OK || l == nil {
		t.Fatalf("Open(%q) = %v, %d", name, l, e)
	}
	return l
}

// done appends records, each of which is taken.
func done(t *testing.T, l *Log, records ...string) {
	t.Helper()
	for _, s := range records {
		if e := l.Append([]byte(s)); e != api.OK {
			t.Fatalf("Append(%q) = %d", s, e)
		}
	}
}

func ok(t *testing.T, what string, e api.Errno) {
	t.Helper()
	if e != api.OK {
		t.Errorf("%s = %d", what, e)
	}
}

// state is what a log tells of itself; Cut, which hangs on when it was opened, is left out.
func state(l *Log) string {
	out := "no base"
	if b, ok := l.Base(); ok {
		out = "base " + strconv.Quote(string(b))
	}
	n := 0
	for b := range l.All() {
		out += " " + strconv.Quote(string(b))
		n++
	}
	if n != l.Len() {
		out += ", Len is another one"
	}
	return out + " seq " + strconv.FormatUint(l.Seq(), 10)
}

func is(t *testing.T, l *Log, want string) {
	t.Helper()
	if g := state(l); g != want {
		t.Errorf("the log is: %s, want: %s", g, want)
	}
}

// refused holds a call to its error, and to changing neither the log nor the disk.
func refused(t *testing.T, d *disk.Disk, l *Log, what string, want api.Errno, call func() api.Errno) {
	t.Helper()
	was, told := d.Copy(), state(l)
	if e := call(); e != want {
		t.Errorf("%s = %d, want %d", what, e, want)
	}
	if !d.Same(was) || d.Syncs() != was.Syncs() || state(l) != told {
		t.Errorf("%s, which is refused, has changed something", what)
	}
}

// Example 1 of the chapter.
func TestExample(t *testing.T) {
	d := disk.New()
	l := opened(t, d, "a")
	done(t, l, "x")
	ok(t, "Sync", l.Sync())
	done(t, l, "y")
	ok(t, "Crash", d.Crash([]api.Keep{{Name: "a.log", N: []int{2}}}))
	m := opened(t, d, "a")
	is(t, m, `no base "x" seq 1`)
	if m.Cut() != 2 {
		t.Errorf("Cut = %d", m.Cut())
	}
	holds(t, d, "a.log", row(1, "x"))
}

// P7.2: a disk that is nil, ahead of a name that is none; names of which the longest file's is too long.
func TestOpenFaults(t *testing.T) {
	for _, name := range []string{"a", "", "A", strings.Repeat("a", 25)} {
		if l, e := Open(nil, name); l != nil || e != api.ErrNil {
			t.Errorf("Open(nil, %q) = %v, %d", name, l, e)
		}
	}
	d := disk.New()
	for _, name := range []string{"A", "a-b", "a/b", "a ", "é", "a\x00", strings.Repeat("a", 25), strings.Repeat("a", 1<<20)} {
		if l, e := Open(d, name); l != nil || e != api.ErrKey {
			t.Errorf("Open(%q) = %v, %d", name, l, e)
		}
	}
	if !d.Same(disk.New()) {
		t.Error("Open makes files")
	}
	for _, name := range []string{"a", "t0", "adm", "a.b", "a.log", "", ".", strings.Repeat("a", 24)} {
		l := opened(t, d, name)
		is(t, l, "no base seq 0")
		done(t, l, "x")
		holds(t, d, name+".log", row(1, "x"))
		ok(t, "Checkpoint", l.Checkpoint([]byte("c")))
		is(t, opened(t, d, name), `base "c" seq 1`)
	}
}

// P7.2: a checkpoint's file that is not one good frame and nothing behind: ErrSum, and nothing changes, whatever else there is to clear away.
func TestOpenWithoutSum(t *testing.T) {
	right := row(3, "base")
	for what, b := range map[string][]byte{
		"no bytes":        {},
		"bytes 0":         make([]byte, 12),
		"a byte too few":  right[:len(right)-1],
		"a byte more":     append(bytes.Clone(right), 0),
		"two frames":      row(3, "base", "x"),
		"a bit turned":    append([]byte{right[0] ^ 1}, right[1:]...),
		"the number 0":    framed(0, []byte("base")),
		"a long varint":   summed([]byte{0x83, 0x00, 1, 'b'}),
		"a record longer": framed(3, make([]byte, api.MaxFrame+1)),
	} {
		d := disk.New()
		file(t, d, "a.ckp", b)
		file(t, d, "a.log", append(row(4, "x"), 1, 2, 3))
		file(t, d, "a.ckp.new", right)
		was := d.Copy()
		if l, e := Open(d, "a"); l != nil || e != api.ErrSum {
			t.Errorf("%s: Open = %v, %d", what, l, e)
		}
		if !d.Same(was) {
			t.Errorf("%s: Open, which is refused, has changed something", what)
		}
		if l, e := Open(d, "A"); l != nil || e != api.ErrKey {
			t.Errorf("Open = %v, %d", l, e)
		}
		// Another log is not touched by it.
		is(t, opened(t, d, "b"), "no base seq 0")
	}
}

// P7.2: which frames are taken, and what is cut away.
func TestOpenTakes(t *testing.T) {
	junk := []byte{9, 9, 9}
	for _, c := range []struct {
		base uint64 // the checkpoint's number; 0: there is none
		log  []byte
		left int // how many bytes of the log's file are left
		want string
	}{
		{0, []byte{}, 0, "no base seq 0"},
		{0, junk, 0, "no base seq 0"},
		{0, row(1, "a"), 7, `no base "a" seq 1`},
		{0, row(1, "a", "b"), 14, `no base "a" "b" seq 2`},
		{0, append(row(1, "a", "b"), junk...), 14, `no base "a" "b" seq 2`},
		{0, append(row(1, "a"), row(3, "c")...), 7, `no base "a" seq 1`},
		{0, row(2, "b", "c"), 0, "no base seq 0"},
		{0, append(row(2, "b"), junk...), 0, "no base seq 0"},
		{0, row(1<<40, "b"), 0, "no base seq 0"},
		{3, []byte{}, 0, `base "base" seq 3`},
		{3, junk, 0, `base "base" seq 3`},
		{3, row(4, "d", "e"), 14, `base "base" "d" "e" seq 5`},
		{3, append(row(4, "d"), junk...), 7, `base "base" "d" seq 4`},
		{3, row(1, "a", "b", "c", "d", "e"), 35, `base "base" "d" "e" seq 5`},
		{3, append(row(2, "b", "c", "d"), junk...), 21, `base "base" "d" seq 4`},
		{3, row(3, "c", "d"), 14, `base "base" "d" seq 4`},
		{3, row(1, "a", "b", "c"), 0, `base "base" seq 3`},
		{3, append(row(1, "a", "b"), junk...), 0, `base "base" seq 3`},
		{3, row(3, "c"), 0, `base "base" seq 3`},
		{3, append(row(2, "b"), row(4, "d")...), 0, `base "base" seq 3`},
		{3, row(5, "e", "f"), 0, `base "base" seq 3`},
		{3, row(6, "f"), 0, `base "base" seq 3`},
	} {
		d := disk.New()
		file(t, d, "a.log", c.log)
		if c.base > 0 {
			file(t, d, "a.ckp", row(c.base, "base"))
		}
		l := opened(t, d, "a")
		is(t, l, c.want)
		holds(t, d, "a.log", append([]byte{}, c.log[:c.left]...))
		if l.Cut() != len(c.log)-c.left {
			t.Errorf("%s: Cut = %d, want %d", c.want, l.Cut(), len(c.log)-c.left)
		}
		m := opened(t, d, "a")
		is(t, m, c.want)
		if m.Cut() != 0 || l.Cut() != len(c.log)-c.left {
			t.Errorf("%s: opened again Cut = %d", c.want, m.Cut())
		}
		next := l.Seq() + 1
		done(t, l, "next")
		holds(t, d, "a.log", append(bytes.Clone(c.log[:c.left]), row(next, "next")...))
		if n := opened(t, d, "a"); n.Seq() != next || n.Len() != l.Len() {
			t.Errorf("%s: behind one record more the log is: %s", c.want, state(n))
		}
	}
}

// P7.2, P1: numbers of which nothing is said end, and panic nowhere.
func TestOpenGreatest(t *testing.T) {
	for _, base := range []uint64{0, 1 << 62, math.MaxUint64 - 1, math.MaxUint64} {
		for _, first := range []uint64{1, 1 << 62, math.MaxUint64 - 1, math.MaxUint64} {
			d := disk.New()
			file(t, d, "a.log", row(first, "x"))
			if base > 0 {
				file(t, d, "a.ckp", row(base, "base"))
			}
			l := opened(t, d, "a")
			l.Append([]byte("y"))
			l.Checkpoint([]byte("z"))
			l.Append([]byte("y"))
			l.Sync()
			state(l)
		}
	}
}

// P7.2: a checkpoint that was not finished is removed; without a log's file there is nothing to cut.
func TestOpenRemovesWhatIsNew(t *testing.T) {
	d := disk.New()
	file(t, d, "a.ckp.new", row(7, "new"))
	file(t, d, "b.ckp.new", nil)
	file(t, d, "a.log.new", []byte("x"))
	l := opened(t, d, "a")
	is(t, l, "no base seq 0")
	holds(t, d, "a.ckp.new", nil)
	holds(t, d, "a.ckp", nil)
	holds(t, d, "a.log", nil)
	holds(t, d, "b.ckp.new", []byte{})
	holds(t, d, "a.log.new", []byte("x"))
	if l.Cut() != 0 {
		t.Errorf("Cut = %d", l.Cut())
	}
}

// P7.2: where nothing is cut away, what was not safe is not safe still; a cut makes the rest safe.
func TestOpenLeavesWritesAlone(t *testing.T) {
	d := disk.New()
	done(t, opened(t, d, "a"), "x", "y")
	l := opened(t, d, "a")
	if d.Pending() != 2 || d.Syncs() != 0 || l.Cut() != 0 {
		t.Errorf("Pending = %d, Syncs = %d, Cut = %d", d.Pending(), d.Syncs(), l.Cut())
	}
	d.Append("a.log", []byte{3})
	l = opened(t, d, "a")
	if d.Pending() != 0 || l.Cut() != 1 {
		t.Errorf("Pending = %d, Cut = %d", d.Pending(), l.Cut())
	}
	is(t, l, `no base "x" "y" seq 2`)
}

// P7.3: a log that is nil, whatever else is wrong; and one that was not opened.
func TestNil(t *testing.T) {
	var l *Log
	long := make([]byte, api.MaxFrame+1)
	for i, e := range []api.Errno{l.Append(nil), l.Append(long), l.Sync(), l.Checkpoint(nil), l.Checkpoint(long)} {
		if e != api.ErrNil {
			t.Errorf("call %d of nil: %d", i, e)
		}
	}
	is(t, l, "no base seq 0")
	if b, ok := l.Base(); b != nil || ok || l.Len() != 0 || l.Cut() != 0 {
		t.Error("nil has something")
	}
	for range l.All() {
		t.Error("nil has a record")
	}
	zero := &Log{}
	zero.Append([]byte("x"))
	zero.Sync()
	zero.Checkpoint([]byte("x"))
	is(t, zero, "no base seq 0")
}

// P7.3: a record is a frame behind the others, one write, which is not safe.
func TestAppend(t *testing.T) {
	d := disk.New()
	l := opened(t, d, "a")
	holds(t, d, "a.log", nil)
	done(t, l, "x", "", "yy")
	is(t, l, `no base "x" "" "yy" seq 3`)
	holds(t, d, "a.log", row(1, "x", "", "yy"))
	if d.Pending() != 3 || d.Syncs() != 0 {
		t.Errorf("Pending = %d, Syncs = %d", d.Pending(), d.Syncs())
	}
	d.Crash(nil)
	is(t, opened(t, d, "a"), "no base seq 0")
}

// P7.3: records of MaxFrame bytes and one more; a file that would be too long, at its last byte; no room for a file.
func TestAppendFaults(t *testing.T) {
	d := disk.New()
	l := opened(t, d, "a")
	long := make([]byte, api.MaxFrame+1)
	refused(t, d, l, "a record too long", api.ErrSize, func() api.Errno { return l.Append(long) })
	ok(t, "a record of MaxFrame bytes", l.Append(long[1:]))
	for l.Append(long[1:]) == api.OK {
	}
	n, _ := d.Len("a.log")
	left := api.MaxFile - n - 1 - 3 - 4 // beside the number, a length of three bytes, and the sum
	refused(t, d, l, "a file too long", api.ErrSize, func() api.Errno { return l.Append(long[:left+1]) })
	ok(t, "a file of MaxFile bytes", l.Append(long[:left]))
	refused(t, d, l, "an empty record more", api.ErrSize, func() api.Errno { return l.Append(nil) })
	if m := opened(t, d, "a"); state(m) != state(l) || m.Cut() != 0 {
		t.Error("a file of MaxFile bytes is another one")
	}

	for i := range api.MaxFiles - 1 {
		d.Append("f"+strconv.Itoa(i), nil)
	}
	b := opened(t, d, "b")
	refused(t, d, b, "a file too many", api.ErrFull, func() api.Errno { return b.Append([]byte("x")) })
	refused(t, d, b, "a record too long, a file too many", api.ErrSize, func() api.Errno { return b.Append(long) })
	d.Remove("f0")
	done(t, b, "x")
	is(t, opened(t, d, "b"), `no base "x" seq 1`)
}

// P7.3: Sync makes all records safe; of a log without a file it is none.
func TestSync(t *testing.T) {
	d := disk.New()
	l, other := opened(t, d, "a"), opened(t, d, "b")
	refused(t, d, l, "Sync without a file", api.OK, l.Sync)
	done(t, l, "x", "y")
	done(t, other, "z")
	ok(t, "Sync", l.Sync())
	if d.Pending() != 1 || d.Syncs() != 1 {
		t.Errorf("Pending = %d, Syncs = %d", d.Pending(), d.Syncs())
	}
	d.Crash(nil)
	is(t, opened(t, d, "a"), `no base "x" "y" seq 2`)
	is(t, opened(t, d, "b"), "no base seq 0")
}

// P7.3: a checkpoint stands in the place of all records, safe at once; numbers go on.
func TestCheckpoint(t *testing.T) {
	d := disk.New()
	l := opened(t, d, "a")
	done(t, l, "x", "y")
	ok(t, "Checkpoint", l.Checkpoint([]byte("both")))
	is(t, l, `base "both" seq 2`)
	holds(t, d, "a.ckp", row(2, "both"))
	holds(t, d, "a.ckp.new", nil)
	holds(t, d, "a.log", []byte{})
	if d.Pending() != 0 || d.Syncs() != 1 {
		t.Errorf("Pending = %d, Syncs = %d", d.Pending(), d.Syncs())
	}
	done(t, l, "z")
	is(t, l, `base "both" "z" seq 3`)
	holds(t, d, "a.log", row(3, "z"))
	is(t, opened(t, d, "a"), `base "both" "z" seq 3`)
	d.Crash(nil)
	l = opened(t, d, "a")
	is(t, l, `base "both" seq 2`)
	// One in the place of another one, without a record between.
	ok(t, "Checkpoint", l.Checkpoint(nil))
	is(t, l, `base "" seq 2`)
	holds(t, d, "a.ckp", row(2, ""))
	done(t, l, "w")
	ok(t, "Checkpoint", l.Checkpoint([]byte("all")))
	is(t, opened(t, d, "a"), `base "all" seq 3`)
}

// P7.3: the errors, in their order.
func TestCheckpointFaults(t *testing.T) {
	d := disk.New()
	l := opened(t, d, "a")
	long := make([]byte, api.MaxFrame+1)
	refused(t, d, l, "too long, and never a record", api.ErrSize, func() api.Errno { return l.Checkpoint(long) })
	refused(t, d, l, "never a record", api.ErrNone, func() api.Errno { return l.Checkpoint([]byte("c")) })
	done(t, l, "x")
	refused(t, d, l, "too long", api.ErrSize, func() api.Errno { return l.Checkpoint(long) })
	for i := range api.MaxFiles - 1 {
		d.Append("f"+strconv.Itoa(i), nil)
	}
	refused(t, d, l, "a file too many", api.ErrFull, func() api.Errno { return l.Checkpoint([]byte("c")) })
	refused(t, d, l, "too long, a file too many", api.ErrSize, func() api.Errno { return l.Checkpoint(long) })
	done(t, l, "y")
	is(t, opened(t, d, "a"), `no base "x" "y" seq 2`)
	d.Remove("f0")
	ok(t, "Checkpoint", l.Checkpoint(long[1:]))
	if b, has := opened(t, d, "a").Base(); !has || !bytes.Equal(b, long[1:]) {
		t.Error("a checkpoint of MaxFrame bytes is another one")
	}
	refused(t, d, l, "another one, a file too many", api.ErrFull, func() api.Errno { return l.Checkpoint([]byte("d")) })
	// A record that a crash took was never there for the log that is opened behind it.
	d = disk.New()
	done(t, opened(t, d, "a"), "x")
	d.Crash(nil)
	l = opened(t, d, "a")
	refused(t, d, l, "a record that is lost", api.ErrNone, func() api.Errno { return l.Checkpoint(nil) })
}

// P7.3: without a file of records there is none to cut; and what was left of another checkpoint goes.
func TestCheckpointFiles(t *testing.T) {
	d := disk.New()
	file(t, d, "a.ckp", row(5, "base"))
	l := opened(t, d, "a")
	ok(t, "Checkpoint", l.Checkpoint([]byte("c")))
	holds(t, d, "a.log", nil)
	holds(t, d, "a.ckp", row(5, "c"))
	for _, left := range [][]byte{{}, []byte("left"), make([]byte, api.MaxFile)} {
		file(t, d, "a.ckp.new", left)
		ok(t, "Checkpoint", l.Checkpoint([]byte("d")))
		holds(t, d, "a.ckp", row(5, "d"))
		holds(t, d, "a.ckp.new", nil)
	}
}

// P7.4: what was handed in or told is nobody's but the caller's.
func TestBytesAreNotShared(t *testing.T) {
	d := disk.New()
	l := opened(t, d, "a")
	in := []byte("base")
	done(t, l, "x")
	ok(t, "Checkpoint", l.Checkpoint(in))
	in[0] = '!'
	rec := []byte("rec")
	l.Append(rec)
	rec[0] = '!'
	want := `base "base" "rec" seq 2`
	for _, m := range []*Log{l, opened(t, d, "a")} {
		is(t, m, want)
		b, _ := m.Base()
		b[0] = '?'
		_ = append(b, "yyyyyyyyyyyyy"...)
		for b := range m.All() {
			b[0] = '?'
			_ = append(b, "yyyyyyyyyyyyy"...)
		}
		is(t, m, want)
	}
}

// P7.4: a walk may end early, may be gone twice, and tells what was there when it was asked for.
func TestAll(t *testing.T) {
	d := disk.New()
	l := opened(t, d, "a")
	done(t, l, "a", "b", "c")
	n := 0
	for range l.All() {
		if n++; n == 2 {
			break
		}
	}
	if n != 2 {
		t.Errorf("a walk that is left goes on: %d", n)
	}
	first := l.All()
	for b := range l.All() {
		done(t, l, string(b)+"again")
	}
	want := []string{"a", "b", "c", "aagain", "bagain", "cagain"}
	second := l.All()
	ok(t, "Checkpoint", l.Checkpoint(nil))
	done(t, l, "x", "y", "z", "w")
	is(t, l, `base "" "x" "y" "z" "w" seq 10`)
	for range 2 {
		if g := texts(slices.Collect(first)); !slices.Equal(g, want[:3]) {
			t.Errorf("All tells %q", g)
		}
		if g := texts(slices.Collect(second)); !slices.Equal(g, want) {
			t.Errorf("All tells %q", g)
		}
	}
}

// P7.4: Cut is of the bytes that Open has cut away, whatever is done behind it.
func TestCut(t *testing.T) {
	d := disk.New()
	file(t, d, "a.log", append(row(1, "x"), 1, 2, 3, 4, 5))
	l := opened(t, d, "a")
	done(t, l, "y")
	l.Sync()
	l.Checkpoint(nil)
	if l.Cut() != 5 || opened(t, d, "a").Cut() != 0 {
		t.Errorf("Cut = %d", l.Cut())
	}
}
