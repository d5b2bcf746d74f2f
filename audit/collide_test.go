package audit

import (
	"bytes"
	"crypto/sha256"
	"math/rand"
	"testing"

	"belfry/api"
	"belfry/sha"
)

// weak is a digest of which there are four: two texts of one are soon at hand.
func weak(b []byte) digest {
	return digest{sha256.Sum256(b)[0] & 3}
}

// checkTexts tells whether two texts were found, as they must be.
func checkTexts(t *testing.T, a, b []byte, head digest) {
	t.Helper()
	x, y, ok := collide(a, b, head, weak)
	if !ok || bytes.Equal(x, y) || weak(x) != weak(y) {
		t.Fatalf("of % x and % x under %x: % x and % x, %v", a, b, head[:1], x, y, ok)
	}
}

// P9.4, P9.6: of logs under one head that are not the same two texts are found: of more entries or fewer, that part at any entry.
func TestCollide(t *testing.T) {
	r := rand.New(rand.NewSource(6))
	found, same := 0, 0
	for range 20000 {
		a, b := newModel(weak), newModel(weak)
		n := r.Intn(4)
		parts := r.Intn(n + 1)
		for i := range n {
			e := Entry{Tenant: "a", At: r.Int63n(2), What: "x"}
			a.add(e)
			if i == parts {
				e.At = r.Int63n(9)
			}
			b.add(e)
		}
		if r.Intn(4) == 0 {
			b.add(Entry{Tenant: "b", What: "x"})
		}
		switch {
		case a.head() != b.head():
			if _, _, ok := collide(a.log, b.log, a.head(), weak); ok {
				t.Fatal("texts are found of logs with heads of their own")
			}
		case bytes.Equal(a.log, b.log):
			same++
			if x, y, ok := collide(a.log, b.log, a.head(), weak); ok || x != nil || y != nil {
				t.Fatalf("of the same log: % x and % x, %v", x, y, ok)
			}
		default:
			found++
			checkTexts(t, a.log, b.log, a.head())
		}
	}
	if found < 500 || same < 500 {
		t.Fatalf("%d logs that are not the same, %d that are: too few", found, same)
	}
}

// P9.8: a log that is cut at an entry's end has another head, or two texts are found.
func TestCollideCut(t *testing.T) {
	r := rand.New(rand.NewSource(7))
	found := 0
	for range 2000 {
		m := someModel(r, weak, 1+r.Intn(5))
		for i := range m.entries {
			log := m.log[:m.begin(i)]
			if _, e, _ := verify(log, m.head(), weak); e == api.OK {
				found++
				checkTexts(t, m.log, log, m.head())
				checkTexts(t, log, m.log, m.head())
			}
		}
	}
	if found < 500 {
		t.Fatalf("%d logs with the head of a longer one: too few", found)
	}
}

// P9.4: the texts, where there are entries: their digests lead to the head.
func TestTexts(t *testing.T) {
	m := someModel(rand.New(rand.NewSource(8)), sha.Sum, 3)
	r, e, _ := verify(m.log, m.head(), sha.Sum)
	l := texts(r.parts, sha.Sum)
	if e != api.OK || len(l) != 4 || sha.Sum(l[3]) != m.head() || !bytes.HasPrefix(l[0], make([]byte, 32)) {
		t.Fatalf("texts = % x, %d", l, e)
	}
	for i, b := range m.parts {
		if !bytes.Equal(l[i][32:], b) {
			t.Errorf("text %d = % x", i, l[i])
		}
	}
}

// P9.4: none, of logs that are not accepted, or are the same.
func TestCollideNone(t *testing.T) {
	m := someModel(rand.New(rand.NewSource(9)), sha256.Sum256, 3)
	cut, torn := m.log[:m.ends[1]], m.log[:len(m.log)-1]
	for i, x := range []struct {
		a, b []byte
		head digest
	}{
		{m.log, m.log, m.head()},
		{nil, nil, New().Head()},
		{nil, []byte{}, New().Head()},
		{m.log, cut, m.head()},
		{cut, m.log, m.head()},
		{m.log, torn, m.head()},
		{torn, m.log, m.head()},
		{torn, torn, m.head()},
		{m.log, m.log, digest{}},
		{m.log, cut, digest{}},
		{m.log, nil, m.head()},
		{nil, m.log, New().Head()},
		{[]byte{5}, []byte{0}, New().Head()},
	} {
		if a, b, ok := Collide(x.a, x.b, x.head); a != nil || b != nil || ok {
			t.Errorf("Collide of row %d = % x, % x, %v", i, a, b, ok)
		}
	}
}
