package audit

import (
	"bytes"
	"crypto/sha256"
	"encoding/binary"
	"math/rand"
	"slices"
	"strings"
	"testing"

	"belfry/api"
)

// field is a field of bytes, or of a number, written without package wire.
func field(num int, b []byte) []byte {
	return append(append([]byte{byte(num<<3 | 2)}, binary.AppendUvarint(nil, uint64(len(b)))...), b...)
}

func number(num int, n uint64) []byte {
	return append([]byte{byte(num << 3)}, binary.AppendUvarint(nil, n)...)
}

// entryBytes are an entry's bytes, as the document says.
func entryBytes(e Entry, ahead digest) []byte {
	return bytes.Join([][]byte{field(1, []byte(e.Tenant)), number(2, uint64(e.At)), field(3, []byte(e.What)), field(4, e.Body), field(5, ahead[:])}, nil)
}

// inLog are bytes behind how many they are.
func inLog(b []byte) []byte {
	return append(binary.AppendUvarint(nil, uint64(len(b))), b...)
}

// model is a log that is written without the package.
type model struct {
	sum     hash
	entries []Entry
	parts   [][]byte // their bytes
	ends    []int    // the places behind them in the log
	log     []byte
	link    digest
	subs    map[string]digest
}

func newModel(sum hash) *model {
	return &model{sum: sum, subs: map[string]digest{}}
}

// add tells the entry's bytes in the log.
func (m *model) add(e Entry) []byte {
	b := entryBytes(e, m.subs[e.Tenant])
	m.subs[e.Tenant] = m.sum(b)
	m.link = m.sum(append(bytes.Clone(m.link[:]), b...))
	m.entries = append(m.entries, e)
	m.parts = append(m.parts, b)
	m.log = append(m.log, inLog(b)...)
	m.ends = append(m.ends, len(m.log))
	return inLog(b)
}

func (m *model) head() digest {
	return m.sum(append(binary.BigEndian.AppendUint64(nil, uint64(len(m.entries))), m.link[:]...))
}

// of are the bytes of a tenant's entries.
func (m *model) of(tenant string) [][]byte {
	var l [][]byte
	for i, e := range m.entries {
		if e.Tenant == tenant {
			l = append(l, m.parts[i])
		}
	}
	return l
}

// begin is the place at which the entry of a number begins.
func (m *model) begin(i int) int {
	if i == 0 {
		return 0
	}
	return m.ends[i-1]
}

var someTenants = []string{"", "a", "acme", "globex", "x-1", strings.Repeat("z", 32)}

func someEntry(r *rand.Rand) Entry {
	e := Entry{Tenant: someTenants[r.Intn(len(someTenants))], At: r.Int63n(api.MaxTime + 1), What: "put", Body: make([]byte, r.Intn(80))}
	if r.Intn(2) == 0 {
		e.At >>= r.Intn(50)
	}
	what := make([]byte, 1+r.Intn(32))
	for i := range what {
		what[i] = byte(33 + r.Intn(94))
	}
	e.What = string(what)
	r.Read(e.Body)
	return e
}

func someModel(r *rand.Rand, sum hash, n int) *model {
	m := newModel(sum)
	for range n {
		m.add(someEntry(r))
	}
	return m
}

func sameEntry(a, b Entry) bool {
	return a.Tenant == b.Tenant && a.At == b.At && a.What == b.What && bytes.Equal(a.Body, b.Body)
}

func sameLists(a, b [][]byte) bool {
	return slices.EqualFunc(a, b, bytes.Equal)
}

// checkChain holds a chain to a model.
func checkChain(t *testing.T, c *Chain, m *model) {
	t.Helper()
	if c.Len() != int64(len(m.entries)) || c.Head() != m.head() {
		t.Fatalf("Len() = %d, Head() = %x; want %d, %x", c.Len(), c.Head(), len(m.entries), m.head())
	}
	for _, s := range append([]string{"none", "Acme"}, someTenants...) {
		want, has := m.subs[s]
		if d, ok := c.Sub(s); d != want || ok != has {
			t.Fatalf("Sub(%q) = %x, %v; want %x, %v", s, d, ok, want, has)
		}
	}
}

// P9.1, P9.5, P9.7: what Add answers is the model's log; it is accepted, its entries are those that were added, and each tenant's are accepted for themselves.
func TestLogStands(t *testing.T) {
	r := rand.New(rand.NewSource(1))
	for range 60 {
		c, m := New(), newModel(sha256.Sum256)
		for range r.Intn(12) {
			e := someEntry(r)
			if b, why := c.Add(e); why != api.OK || !bytes.Equal(b, m.add(e)) {
				t.Fatalf("Add(%v) = % x, %d", e, b, why)
			}
			checkChain(t, c, m)
		}
		if e, at := Verify(m.log, c.Head()); e != api.OK || at != 0 {
			t.Fatalf("Verify = %d, %d", e, at)
		}
		if l, e, at := Entries(m.log); e != api.OK || at != 0 || !slices.EqualFunc(l, m.entries, sameEntry) {
			t.Fatalf("Entries = %v, %d, %d, want %v", l, e, at, m.entries)
		}
		for _, s := range append([]string{"none"}, someTenants...) {
			l, e := Of(m.log, s)
			if e != api.OK || !sameLists(l, m.of(s)) {
				t.Fatalf("Of(%q) = % x, %d", s, l, e)
			}
			if d, _ := c.Sub(s); VerifySub(l, s, d) != api.OK {
				t.Fatalf("VerifySub(%q) = %d", s, VerifySub(l, s, d))
			}
		}
	}
}

// P9.5: a chain that is resumed goes on as the one that wrote the log.
func TestResumeGoesOn(t *testing.T) {
	r := rand.New(rand.NewSource(2))
	for range 60 {
		m := someModel(r, sha256.Sum256, r.Intn(8))
		c, n := Resume(m.log)
		if n != len(m.log) {
			t.Fatalf("Resume read %d of %d bytes", n, len(m.log))
		}
		checkChain(t, c, m)
		for range 3 {
			e := someEntry(r)
			if b, why := c.Add(e); why != api.OK || !bytes.Equal(b, m.add(e)) {
				t.Fatalf("Add behind Resume = % x, %d", b, why)
			}
		}
		checkChain(t, c, m)
	}
}

// P9.2, P9.3, P9.8: a log that is cut: within an entry it is told, where that begins; at an entry's end it is one of fewer entries, with another head.
func TestCutLogs(t *testing.T) {
	r := rand.New(rand.NewSource(3))
	for range 12 {
		m := someModel(r, sha256.Sum256, 1+r.Intn(4))
		whole := 0
		for n := range len(m.log) {
			if n == m.ends[whole] {
				whole++
			}
			log, begin := m.log[:n], m.begin(whole)
			l, e, at := Entries(log)
			why, place := Verify(log, m.head())
			_, all := Resume(log)
			of, ofWhy := Of(log, m.entries[0].Tenant)
			if n == begin {
				if e != api.OK || at != 0 || len(l) != whole || why != api.ErrSum || place != n || all != n || ofWhy != api.OK {
					t.Fatalf("cut at an end, %d: Entries %d, %d, %d; Verify %d, %d; Resume %d; Of %d", n, len(l), e, at, why, place, all, ofWhy)
				}
			} else if l != nil || e != api.ErrShort || at != begin || why != e || place != at || all != at || of != nil || ofWhy != e {
				t.Fatalf("cut within an entry, %d: Entries %d, %d, %d; Verify %d, %d; Resume %d; Of %v, %d", n, len(l), e, at, why, place, all, of, ofWhy)
			}
			if _, _, ok := Collide(m.log, log, m.head()); ok {
				t.Fatalf("Collide finds texts in a log cut at %d", n)
			}
		}
	}
}

// P9.6: a bit that is turned is found, and no fault is told ahead of its entry.
func TestTurnedBits(t *testing.T) {
	m := someModel(rand.New(rand.NewSource(4)), sha256.Sum256, 4)
	for i := range 8 * len(m.log) {
		log := bytes.Clone(m.log)
		log[i/8] ^= 1 << (i % 8)
		begin := 0
		for _, end := range m.ends {
			if end <= i/8 {
				begin = end
			}
		}
		if e, at := Verify(log, m.head()); e == api.OK || at < begin {
			t.Fatalf("with bit %d turned: Verify = %d, %d; its entry begins at %d", i, e, at, begin)
		}
		if _, n := Resume(log); n < begin {
			t.Fatalf("with bit %d turned: Resume reads %d bytes; its entry begins at %d", i, n, begin)
		}
	}
}

// spoil turns, takes out, puts in and swaps some of a log.
func spoil(r *rand.Rand, log []byte) []byte {
	log = bytes.Clone(log)
	for range 1 + r.Intn(3) {
		at := r.Intn(len(log) + 1)
		to := at + r.Intn(len(log)+1-at)
		switch r.Intn(5) {
		case 0:
			log = slices.Delete(log, at, to)
		case 1:
			log = slices.Insert(log, at, log[at:to]...)
		case 2:
			log = log[:to]
		case 3:
			if at < len(log) {
				log[at] = byte(r.Intn(256))
			}
		case 4:
			log = slices.Insert(log, at, byte(r.Intn(256)))
		}
	}
	return log
}

// P1, P9.2, P9.3: any bytes: every call ends, what stands ahead of a fault is a log, and its chain is Resume's; none is changed.
func TestAnyBytes(t *testing.T) {
	r := rand.New(rand.NewSource(5))
	for i := range 4000 {
		log := make([]byte, r.Intn(30))
		r.Read(log)
		if i%2 == 0 {
			log = spoil(r, someModel(r, sha256.Sum256, r.Intn(5)).log)
		}
		was := bytes.Clone(log)
		l, e, at := Entries(log)
		c, n := Resume(log)
		head := c.Head()
		why, place := Verify(log, head)
		if e == api.OK {
			if at != 0 || n != len(log) || why != api.OK || place != 0 || int64(len(l)) != c.Len() {
				t.Fatalf("% x: Entries %d, %d; Resume %d; Verify %d, %d", log, e, at, n, why, place)
			}
		} else {
			if l != nil || at >= len(log) || n != at || why != e || place != at {
				t.Fatalf("% x: Entries %v, %d, %d; Resume %d; Verify %d, %d", log, l, e, at, n, why, place)
			}
			l, e, _ = Entries(log[:n])
		}
		if e != api.OK {
			t.Fatalf("% x: what stands ahead of %d is no log: %d", log, n, e)
		}
		m := newModel(sha256.Sum256)
		for _, x := range l {
			m.add(x)
		}
		checkChain(t, c, m)
		if !bytes.Equal(m.log, log[:n]) {
			t.Fatalf("% x is read, and is no log as it is written", log[:n])
		}
		VerifySub([][]byte{log}, "a", head)
		Collide(log, was, head)
		if !bytes.Equal(log, was) {
			t.Fatalf("% x was changed", was)
		}
	}
}
