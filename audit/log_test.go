package audit

import (
	"bytes"
	"crypto/sha256"
	"encoding/binary"
	"math"
	"slices"
	"strings"
	"testing"

	"belfry/api"
)

func joined(parts ...[]byte) []byte {
	return bytes.Join(parts, nil)
}

// brokenEntries are bytes that are those of no entry.
func brokenEntries() [][]byte {
	zero := make([]byte, 32)
	tenant, at, what, body, ahead := field(1, []byte("a")), number(2, 5), field(3, []byte("put")), field(4, []byte("hi")), field(5, zero)
	l := [][]byte{
		nil,
		{0},
		joined(tenant, at, what, body),
		joined(at, what, body, ahead),
		joined(tenant, what, body, ahead),
		joined(tenant, at, body, ahead),
		joined(tenant, at, what, ahead),
		joined(at, tenant, what, body, ahead),
		joined(tenant, at, body, what, ahead),
		joined(tenant, at, what, body, ahead, ahead),
		joined(tenant, tenant, at, what, body, ahead),
		joined(tenant, at, what, body, ahead, number(6, 1)),
		joined(tenant, at, what, body, ahead, []byte{0}),
		joined(tenant, at, what, body, ahead[:len(ahead)-1]),
		joined(tenant, at, what, body, field(5, zero[:31])),
		joined(tenant, at, what, body, field(5, append(zero, 0))),
		joined(tenant, at, what, body, field(5, nil)),
		joined(tenant, at, what, body, field(6, zero)),
		joined(field(6, []byte("a")), at, what, body, ahead),
		joined(number(1, 0), at, what, body, ahead),
		joined(tenant, field(2, nil), what, body, ahead),
		joined(tenant, field(2, []byte{5}), what, body, ahead),
		joined(tenant, []byte{2<<3 | 1, 5, 0, 0, 0, 0, 0, 0, 0}, what, body, ahead),
		joined(tenant, []byte{2<<3 | 5, 5, 0, 0, 0}, what, body, ahead),
		joined(tenant, at, what, number(4, 0), ahead),
		joined(tenant, []byte{2 << 3, 0x85, 0}, what, body, ahead),
		joined(tenant, []byte{2<<3 | 0x80, 0, 5}, what, body, ahead),
		joined([]byte{1<<3 | 2, 0x81, 0, 'a'}, at, what, body, ahead),
		joined([]byte{1<<3 | 2 | 0x80, 0, 1, 'a'}, at, what, body, ahead),
		joined(tenant, at, what, body, []byte{5<<3 | 2, 0xa0, 0}, zero),
	}
	for _, s := range []string{"A", "1", "a b", "a/", strings.Repeat("a", 33)} {
		l = append(l, joined(field(1, []byte(s)), at, what, body, ahead))
	}
	for _, n := range []uint64{api.MaxTime + 1, 1 << 62, 1 << 63, math.MaxUint64} {
		l = append(l, joined(tenant, number(2, n), what, body, ahead))
	}
	for _, s := range []string{"", " ", "a b", "\x7f", strings.Repeat("x", 33)} {
		l = append(l, joined(tenant, at, field(3, []byte(s)), body, ahead))
	}
	return append(l, joined(tenant, at, what, field(4, make([]byte, api.MaxText+1)), ahead))
}

// checkFault holds all that read a log to one fault.
func checkFault(t *testing.T, log []byte, why api.Errno, at int) {
	t.Helper()
	if l, e, place := Entries(log); l != nil || e != why || place != at {
		t.Errorf("Entries(%.200x) = %d entries, %d, %d; want %d, %d", log, len(l), e, place, why, at)
	}
	for _, head := range []digest{{}, New().Head()} {
		if e, place := Verify(log, head); e != why || place != at {
			t.Errorf("Verify(%.200x) = %d, %d; want %d, %d", log, e, place, why, at)
		}
	}
	for _, s := range []string{"", "a", "none"} {
		if l, e := Of(log, s); l != nil || e != why {
			t.Errorf("Of(%.200x, %q) = %d entries, %d; want %d", log, s, len(l), e, why)
		}
	}
	c, n := Resume(log)
	if n != at {
		t.Errorf("Resume(%.200x) read %d bytes, want %d", log, n, at)
	}
	if e, place := Verify(log[:at], c.Head()); e != api.OK || place != 0 {
		t.Errorf("Verify of what Resume(%.200x) took = %d, %d", log, e, place)
	}
}

// aheads are logs that a fault may stand behind.
func aheads() []*model {
	none, two := newModel(sha256.Sum256), newModel(sha256.Sum256)
	two.add(Entry{Tenant: "a", At: 1, What: "put", Body: []byte("first")})
	two.add(Entry{Tenant: "", At: 2, What: "put"})
	return []*model{none, two}
}

// P9.2: bytes of no entry, or not as they are written, behind nothing and behind entries, at a log's end and ahead of more.
func TestBrokenEntries(t *testing.T) {
	for _, m := range aheads() {
		good := inLog(entryBytes(Entry{Tenant: "b", What: "x"}, digest{}))
		for _, b := range brokenEntries() {
			log := joined(m.log, inLog(b))
			checkFault(t, log, api.ErrForm, len(m.log))
			checkFault(t, joined(log, good), api.ErrForm, len(m.log))
			checkFault(t, joined(log, []byte{0x80}), api.ErrForm, len(m.log))
		}
	}
}

// P9.2: lengths: what is not all there is told ahead of a form that is wrong.
func TestLengths(t *testing.T) {
	good := entryBytes(Entry{Tenant: "b", What: "x"}, digest{})
	size := byte(len(good))
	for _, m := range aheads() {
		for _, x := range []struct {
			b   []byte
			why api.Errno
		}{
			{[]byte{5}, api.ErrShort},
			{[]byte{0x80}, api.ErrShort},
			{[]byte{0xff, 0xff}, api.ErrShort},
			{bytes.Repeat([]byte{0x80}, 10), api.ErrShort},
			{[]byte{size}, api.ErrShort},
			{joined([]byte{size}, good[1:]), api.ErrShort},
			{joined([]byte{size + 1}, good), api.ErrShort},
			{joined([]byte{size | 0x80, 0}, good[1:]), api.ErrShort},
			{joined(binary.AppendUvarint(nil, 2*api.MaxText+1), good), api.ErrShort},
			{joined(binary.AppendUvarint(nil, math.MaxInt64), good), api.ErrShort},
			{joined(binary.AppendUvarint(nil, 1<<63), good), api.ErrShort},
			{joined(binary.AppendUvarint(nil, math.MaxUint64), good), api.ErrShort},
			{joined(binary.AppendUvarint(nil, 2*api.MaxText+1), make([]byte, 2*api.MaxText)), api.ErrShort},
			{joined(binary.AppendUvarint(nil, 2*api.MaxText+1), make([]byte, 2*api.MaxText+1)), api.ErrForm},
			{joined(binary.AppendUvarint(nil, 2*api.MaxText), make([]byte, 2*api.MaxText)), api.ErrForm},
			{joined([]byte{size | 0x80, 0}, good), api.ErrForm},
			{joined([]byte{size | 0x80, 0x80, 0}, good), api.ErrForm},
			{joined(bytes.Repeat([]byte{0x80}, 10), []byte{0}, good), api.ErrForm},
			{joined(bytes.Repeat([]byte{0xff}, 9), []byte{2}, good), api.ErrForm},
			{joined([]byte{size - 1}, good), api.ErrForm},
			{joined([]byte{size + 1}, good, []byte{0}), api.ErrForm},
			{[]byte{0}, api.ErrForm},
		} {
			checkFault(t, joined(m.log, x.b), x.why, len(m.log))
		}
	}
}

// P9.2: a digest ahead that is another one; of a tenant's first entry it is 0, of nobody's too.
func TestBrokenChain(t *testing.T) {
	for _, m := range aheads() {
		first, nobody := m.subs["a"], m.subs[""]
		for _, x := range []struct {
			tenant string
			ahead  digest
			why    api.Errno
		}{
			{"a", first, api.OK},
			{"", nobody, api.OK},
			{"b", digest{}, api.OK},
			{"b", digest{1}, api.ErrChain},
			{"b", digest{31: 1}, api.ErrChain},
			{"b", sha256.Sum256(nil), api.ErrChain},
			{"a", digest{7}, api.ErrChain},
			{"a", m.head(), api.ErrChain},
			{"", digest{7}, api.ErrChain},
		} {
			log := joined(m.log, inLog(entryBytes(Entry{Tenant: x.tenant, What: "x"}, x.ahead)))
			if x.why != api.OK {
				checkFault(t, log, x.why, len(m.log))
				checkFault(t, joined(log, []byte{0}), x.why, len(m.log))
			} else if l, e, at := Entries(log); len(l) != len(m.entries)+1 || e != api.OK || at != 0 {
				t.Errorf("Entries with an entry of %q = %d entries, %d, %d", x.tenant, len(l), e, at)
			}
		}
	}
	m := aheads()[1]
	for tenant, other := range map[string]digest{"a": m.subs[""], "": m.subs["a"], "b": m.subs["a"]} {
		checkFault(t, joined(m.log, inLog(entryBytes(Entry{Tenant: tenant, What: "x"}, other))), api.ErrChain, len(m.log))
		checkFault(t, joined(m.log, inLog(entryBytes(Entry{Tenant: "a", What: "x"}, digest{}))), api.ErrChain, len(m.log))
	}
}

// P9.2: entries that are swapped, taken out or told twice break the chain of their tenant.
func TestOrder(t *testing.T) {
	m := newModel(sha256.Sum256)
	for _, s := range []string{"1", "2", "3"} {
		m.add(Entry{Tenant: "a", What: "x", Body: []byte(s)})
	}
	x, y, z := inLog(m.parts[0]), inLog(m.parts[1]), inLog(m.parts[2])
	checkFault(t, joined(x, z), api.ErrChain, len(x))
	checkFault(t, joined(y, x), api.ErrChain, 0)
	checkFault(t, joined(x, x), api.ErrChain, len(x))
	checkFault(t, joined(x, y, y), api.ErrChain, len(x)+len(y))
}

// P9.3: a head that is another one is told, with the log's length; a log of other tenants' entries in another order has one.
func TestVerifyHead(t *testing.T) {
	m, other := newModel(sha256.Sum256), newModel(sha256.Sum256)
	a, b := Entry{Tenant: "a", What: "x"}, Entry{Tenant: "b", What: "x"}
	m.add(a)
	m.add(b)
	other.add(b)
	other.add(a)
	for _, head := range []digest{{}, New().Head(), other.head(), m.link, m.subs["b"]} {
		if e, at := Verify(m.log, head); e != api.ErrSum || at != len(m.log) {
			t.Errorf("Verify with %x = %d, %d", head, e, at)
		}
	}
	if e, at := Verify(nil, m.head()); e != api.ErrSum || at != 0 {
		t.Errorf("Verify of none with another head = %d, %d", e, at)
	}
	if e, at := Verify(m.log, m.head()); e != api.OK || at != 0 {
		t.Errorf("Verify = %d, %d", e, at)
	}
}

// P9.3: VerifySub, the first one at fault.
func TestVerifySub(t *testing.T) {
	m := newModel(sha256.Sum256)
	for _, s := range []string{"a", "b", "", "a", "a", ""} {
		m.add(Entry{Tenant: s, What: "x", Body: []byte("of " + s)})
	}
	a, b, nobody := m.of("a"), m.of("b"), m.of("")
	sub := m.subs["a"]
	broken := a[1][:len(a[1])-1]
	none := digest{}
	for i, x := range []struct {
		l      [][]byte
		tenant string
		sub    digest
		why    api.Errno
	}{
		{a, "a", sub, api.OK},
		{nobody, "", m.subs[""], api.OK},
		{a[:1], "a", sha256.Sum256(a[0]), api.OK},
		{nil, "a", none, api.OK},
		{nil, "A", none, api.OK},
		{nil, "a", sub, api.ErrSum},
		{nil, "a", digest{31: 1}, api.ErrSum},
		{a, "a", none, api.ErrSum},
		{a, "a", m.subs["b"], api.ErrSum},
		{a[:2], "a", sub, api.ErrSum},
		{a[1:], "a", sub, api.ErrChain},
		{[][]byte{a[0], a[2]}, "a", sub, api.ErrChain},
		{[][]byte{a[0], a[0]}, "a", sub, api.ErrChain},
		{[][]byte{a[1], a[0], a[2]}, "a", sub, api.ErrChain},
		{a, "b", sub, api.ErrForm},
		{a, "", sub, api.ErrForm},
		{nobody, "a", sub, api.ErrForm},
		{[][]byte{a[0], b[0], a[1]}, "a", sub, api.ErrForm},
		{[][]byte{a[0], broken}, "a", sub, api.ErrForm},
		{[][]byte{a[0], inLog(a[1])}, "a", sub, api.ErrForm},
		{[][]byte{a[0], nil}, "a", sub, api.ErrForm},
		{[][]byte{a[0], a[2], broken}, "a", sub, api.ErrChain},
		{[][]byte{broken, a[2]}, "a", sub, api.ErrForm},
		{[][]byte{make([]byte, api.MaxFile+1)}, "a", sub, api.ErrForm},
	} {
		if e := VerifySub(x.l, x.tenant, x.sub); e != x.why {
			t.Errorf("VerifySub of row %d = %d, want %d", i, e, x.why)
		}
	}
	for i, b := range brokenEntries() {
		if e := VerifySub([][]byte{b}, "a", sha256.Sum256(b)); e != api.ErrForm {
			t.Errorf("VerifySub of broken entry %d = %d", i, e)
		}
	}
}

// P9.3: the entries of a tenant that can not be, or has none, are none.
func TestOfNone(t *testing.T) {
	m := aheads()[1]
	for _, s := range []string{"b", "A", "a ", strings.Repeat("a", 99)} {
		if l, e := Of(m.log, s); len(l) != 0 || e != api.OK {
			t.Errorf("Of(%q) = %d entries, %d", s, len(l), e)
		}
	}
	if l, e := Of(m.log, ""); e != api.OK || !slices.EqualFunc(l, m.parts[1:], bytes.Equal) {
		t.Errorf("Of nobody = % x, %d", l, e)
	}
	if l, e := Of(nil, "a"); len(l) != 0 || e != api.OK {
		t.Errorf("Of no log = %d entries, %d", len(l), e)
	}
}
