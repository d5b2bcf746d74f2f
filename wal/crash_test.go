package wal

import (
	"bytes"
	"math/rand"
	"strconv"
	"testing"

	"belfry/api"
	"belfry/disk"
)

// model is what a log has to tell: its checkpoint, the records behind it, and how many of these are safe.
type model struct {
	has     bool
	base    string
	number  uint64
	records []string
	safe    int
}

func (m *model) state() string {
	out := "no base"
	if m.has {
		out = "base " + strconv.Quote(m.base)
	}
	for _, s := range m.records {
		out += " " + strconv.Quote(s)
	}
	return out + " seq " + strconv.FormatUint(m.number+uint64(len(m.records)), 10)
}

// step does one thing to the log and to the model.
func (m *model) step(t *testing.T, r *rand.Rand, l *Log) {
	b := make([]byte, r.Intn(12))
	r.Read(b)
	e, want := api.OK, api.OK
	switch r.Intn(8) {
	default:
		e = l.Append(b)
		m.records = append(m.records, string(b))
	case 0, 1:
		e = l.Sync()
		m.safe = len(m.records)
	case 2:
		e = l.Checkpoint(b)
		if l.Seq() == 0 {
			want = api.ErrNone
			break
		}
		*m = model{has: true, base: string(b), number: m.number + uint64(len(m.records))}
	}
	if e != want {
		t.Fatalf("a call answers %d, want %d", e, want)
	}
}

// keeps are how many bytes of each write that is not safe a crash keeps: often all of it, often not.
func (m *model) keeps(r *rand.Rand) []int {
	n := make([]int, r.Intn(len(m.records)-m.safe+1))
	for i := range n {
		if n[i] = r.Intn(16); r.Intn(2) == 0 {
			n[i] = 100
		}
	}
	return n
}

// crashed holds the model to what the disk has of the log's file: the first frames that stand there as they were written.
func (m *model) crashed(t *testing.T, d *disk.Disk) int {
	left, _ := d.Read("a.log")
	kept, size := 0, 0
	for kept < len(m.records) {
		f := framed(m.number+uint64(kept)+1, []byte(m.records[kept]))
		if !bytes.HasPrefix(left[size:], f) {
			break
		}
		kept++
		size += len(f)
	}
	if kept < m.safe {
		t.Fatalf("%d records were safe, and %d are there", m.safe, kept)
	}
	m.records, m.safe = m.records[:kept:kept], kept
	return len(left) - size
}

// P7.5: whatever a crash leaves, the log has all that was safe and some first ones of the others, in order; P7.6: opened again without one it has what it had.
func TestCrashes(t *testing.T) {
	for seed := range int64(1500) {
		r := rand.New(rand.NewSource(seed))
		d, m := disk.New(), &model{}
		l := opened(t, d, "a")
		for range 60 {
			m.step(t, r, l)
			switch r.Intn(8) {
			case 0:
				was := d.Copy()
				l = opened(t, d, "a")
				if l.Cut() != 0 || !d.Same(was) {
					t.Fatalf("seed %d: opened without a crash, something is cut", seed)
				}
			case 1:
				var k []api.Keep
				if n := m.keeps(r); len(n) > 0 {
					k = []api.Keep{{Name: "a.log", N: n}}
				}
				if e := d.Crash(k); e != api.OK {
					t.Fatalf("Crash = %d", e)
				}
				torn := m.crashed(t, d)
				if l = opened(t, d, "a"); l.Cut() != torn {
					t.Fatalf("seed %d: Cut = %d, want %d", seed, l.Cut(), torn)
				}
			}
			if g := state(l); g != m.state() {
				t.Fatalf("seed %d: the log is: %s, want: %s", seed, g, m.state())
			}
		}
	}
}

// P7.5: a crash at any step of a checkpoint leaves the old one with its records, or the new one.
func TestCrashWithinCheckpoint(t *testing.T) {
	frame := row(4, "new")
	for n := range len(frame) + 1 {
		d := disk.New()
		file(t, d, "a.ckp", row(2, "old"))
		file(t, d, "a.log", row(3, "x", "y"))
		d.Append("a.ckp.new", frame)
		d.Crash([]api.Keep{{Name: "a.ckp.new", N: []int{n}}})
		l := opened(t, d, "a")
		is(t, l, `base "old" "x" "y" seq 4`)
		holds(t, d, "a.ckp.new", nil)
		ok(t, "Checkpoint", l.Checkpoint([]byte("new")))
		is(t, opened(t, d, "a"), `base "new" seq 4`)
	}
	// It is called the checkpoint, and the log is not cut yet.
	d := disk.New()
	file(t, d, "a.ckp", frame)
	file(t, d, "a.log", row(3, "x", "y"))
	l := opened(t, d, "a")
	is(t, l, `base "new" seq 4`)
	holds(t, d, "a.log", []byte{})
	if l.Cut() != len(row(3, "x", "y")) {
		t.Errorf("Cut = %d", l.Cut())
	}
}

// P7.5: each number of bytes kept of each of two writes.
func TestCrashOfTwoWrites(t *testing.T) {
	x, y := row(2, "xx"), row(3, "yy")
	for i := range len(x) + 1 {
		for j := range len(y) + 1 {
			d := disk.New()
			l := opened(t, d, "a")
			done(t, l, "w")
			l.Sync()
			done(t, l, "xx", "yy")
			ok(t, "Crash", d.Crash([]api.Keep{{Name: "a.log", N: []int{i, j}}}))
			want := `no base "w" seq 1`
			if i == len(x) && j == len(y) {
				want = `no base "w" "xx" "yy" seq 3`
			} else if i == len(x) {
				want = `no base "w" "xx" seq 2`
			}
			n, _ := d.Len("a.log")
			l = opened(t, d, "a")
			is(t, l, want)
			if left, _ := d.Len("a.log"); l.Cut() != n-left {
				t.Errorf("Cut = %d of %d bytes, %d are left", l.Cut(), n, left)
			}
		}
	}
}

// Logs on one disk go their own ways, though one's name begins as another one's.
func TestTwoLogs(t *testing.T) {
	d := disk.New()
	a, b := opened(t, d, "a"), opened(t, d, "a.a")
	done(t, a, "1")
	done(t, b, "2", "3")
	ok(t, "Checkpoint", b.Checkpoint([]byte("b")))
	done(t, b, "4")
	is(t, opened(t, d, "a"), `no base "1" seq 1`)
	is(t, opened(t, d, "a.a"), `base "b" "4" seq 3`)
	ok(t, "Checkpoint", a.Checkpoint([]byte("a")))
	is(t, opened(t, d, "a"), `base "a" seq 1`)
	is(t, opened(t, d, "a.a"), `base "b" "4" seq 3`)
}
