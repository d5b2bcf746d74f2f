package audit

import (
	"bytes"
	"crypto/sha256"
	"encoding/hex"
	"math"
	"strings"
	"testing"

	"belfry/api"
)

// The example of the chapter.
func TestExample(t *testing.T) {
	if New().Head() != sha256.Sum256(make([]byte, 40)) {
		t.Errorf("New().Head() = %x", New().Head())
	}
	if e, at := Verify(nil, New().Head()); e != api.OK || at != 0 {
		t.Errorf("Verify of none = %d, %d", e, at)
	}
	for _, head := range []digest{{}, New().Head()} {
		if e, at := Verify([]byte{5}, head); e != api.ErrShort || at != 0 {
			t.Errorf("Verify of 05 = %d, %d", e, at)
		}
	}
}

// P9.1: the bytes of entries, written out.
func TestAddBytes(t *testing.T) {
	c := New()
	zero := strings.Repeat("00", 32)
	for _, x := range []struct {
		e     Entry
		bytes string
	}{
		{Entry{Tenant: "acme", At: 300, What: "put", Body: []byte("hi")}, "340a0461636d6510ac021a03707574220268692a20" + zero},
		{Entry{What: "x"}, "2b0a0010001a017822002a20" + zero},
		{Entry{Tenant: "b", At: api.MaxTime, What: "!~"}, "340a01621080808080808080021a02217e22002a20" + zero},
	} {
		b, e := c.Add(x.e)
		if e != api.OK || hex.EncodeToString(b) != x.bytes {
			t.Errorf("Add(%v) = %x, %d, want %s", x.e, b, e, x.bytes)
		}
		if d, ok := c.Sub(x.e.Tenant); !ok || d != sha256.Sum256(b[1:]) {
			t.Errorf("Sub(%q) = %x, %v", x.e.Tenant, d, ok)
		}
	}
	d, _ := c.Sub("acme")
	if b, _ := c.Add(Entry{Tenant: "acme", What: "x"}); !bytes.HasSuffix(b, d[:]) {
		t.Errorf("the second entry of acme = %x: it has not the digest of the first one, %x", b, d)
	}
}

// P9.1: what can not be, the errors in their order: each with all that come behind it.
func TestAddErrors(t *testing.T) {
	long := make([]byte, api.MaxText+1)
	for _, x := range []struct {
		e   Entry
		why api.Errno
	}{
		{Entry{Tenant: "A", At: -1, What: "", Body: long}, api.ErrIdent},
		{Entry{Tenant: "1a", What: "x"}, api.ErrIdent},
		{Entry{Tenant: strings.Repeat("a", 33), What: "x"}, api.ErrIdent},
		{Entry{Tenant: "a/b", What: "x"}, api.ErrIdent},
		{Entry{Tenant: " ", What: "x"}, api.ErrIdent},
		{Entry{Tenant: "a", At: -1, What: "", Body: long}, api.ErrArg},
		{Entry{At: math.MinInt64, What: "x"}, api.ErrArg},
		{Entry{At: api.MaxTime + 1, What: "x"}, api.ErrArg},
		{Entry{At: math.MaxInt64, What: "x"}, api.ErrArg},
		{Entry{Tenant: "a", What: "", Body: long}, api.ErrForm},
		{Entry{What: strings.Repeat("x", 33)}, api.ErrForm},
		{Entry{What: "a b"}, api.ErrForm},
		{Entry{What: "a\x7f"}, api.ErrForm},
		{Entry{What: "\x00"}, api.ErrForm},
		{Entry{What: "ä"}, api.ErrForm},
		{Entry{What: "x", Body: long}, api.ErrSize},
	} {
		c := New()
		c.Add(Entry{Tenant: "a", What: "x"})
		head := c.Head()
		sub, _ := c.Sub("a")
		if b, why := c.Add(x.e); b != nil || why != x.why {
			t.Errorf("Add(%.60v) = %x, %d, want %d", x.e, b, why, x.why)
		}
		now, _ := c.Sub("a")
		if _, has := c.Sub(x.e.Tenant); c.Head() != head || c.Len() != 1 || now != sub || has && x.e.Tenant != "a" {
			t.Errorf("Add(%.60v) was refused, and changed the chain", x.e)
		}
	}
}

// P9.1: what can just be is added, and read again.
func TestAddEdges(t *testing.T) {
	c := New()
	var log []byte
	all := []Entry{
		{Tenant: strings.Repeat("a", 32), At: api.MaxTime, What: strings.Repeat("~", 32), Body: make([]byte, api.MaxText)},
		{Tenant: "", At: 0, What: "!", Body: nil},
		{Tenant: "a", At: 1, What: "!", Body: []byte{}},
		{Tenant: "a-0", At: api.MaxTime - 1, What: strings.Repeat("!", 32), Body: bytes.Repeat([]byte{255}, api.MaxText-1)},
	}
	for _, e := range all {
		b, why := c.Add(e)
		if why != api.OK {
			t.Fatalf("Add(%.60v) = %d", e, why)
		}
		log = append(log, b...)
	}
	l, e, at := Entries(log)
	if e != api.OK || at != 0 || len(l) != len(all) {
		t.Fatalf("Entries = %d entries, %d, %d", len(l), e, at)
	}
	for i := range all {
		if !sameEntry(l[i], all[i]) {
			t.Errorf("entry %d = %.60v", i, l[i])
		}
	}
	for i := range 256 {
		b, why := New().Add(Entry{What: string([]byte{byte(i)})})
		if right := i >= 33 && i <= 126; right != (why == api.OK) || right != (b != nil) || !right && why != api.ErrForm {
			t.Errorf("What of the byte %d = % x, %d", i, b, why)
		}
	}
}

// P9.1: a nil chain, and one that New did not make.
func TestNilChain(t *testing.T) {
	var c *Chain
	if b, e := c.Add(Entry{Tenant: "A"}); b != nil || e != api.ErrNil {
		t.Errorf("Add of nil = % x, %d", b, e)
	}
	if d, ok := c.Sub("a"); c.Copy() != nil || c.Head() != (digest{}) || d != (digest{}) || ok || c.Len() != 0 {
		t.Error("a nil chain tells something")
	}
	var zero Chain
	if zero.Head() != New().Head() || zero.Len() != 0 || zero.Copy().Len() != 0 {
		t.Error("a chain's zero value is not as New's")
	}
	if _, e := zero.Copy().Add(Entry{What: "x"}); e != api.OK || zero.Len() != 0 {
		t.Errorf("Add of a zero value's copy = %d", e)
	}
	if _, e := zero.Add(Entry{What: "x"}); e != api.OK || zero.Len() != 1 {
		t.Errorf("Add of a zero value = %d", e)
	}
}

// P9.1: a copy is as the chain is, and goes its own way.
func TestCopy(t *testing.T) {
	a, m := New(), newModel(sha256.Sum256)
	for _, s := range []string{"acme", "", "acme"} {
		e := Entry{Tenant: s, What: "x"}
		a.Add(e)
		m.add(e)
	}
	b := a.Copy()
	checkChain(t, b, m)
	b.Add(Entry{Tenant: "acme", What: "y"})
	b.Add(Entry{Tenant: "globex", What: "y"})
	checkChain(t, a, m)
	was := b.Head()
	e := Entry{Tenant: "a", What: "z"}
	a.Add(e)
	m.add(e)
	checkChain(t, a, m)
	if _, ok := b.Sub("a"); ok || b.Head() != was || b.Len() != 5 {
		t.Error("a copy goes with the chain")
	}
}

// P9.7: entries of others change no tenant's digest.
func TestSubIsOfOne(t *testing.T) {
	c := New()
	c.Add(Entry{Tenant: "acme", What: "x"})
	was, _ := c.Sub("acme")
	for _, s := range []string{"", "acm", "acme-", "globex"} {
		c.Add(Entry{Tenant: s, What: "x", Body: []byte("acme")})
		if d, ok := c.Sub("acme"); !ok || d != was {
			t.Errorf("an entry of %q changes acme's digest", s)
		}
	}
	c.Add(Entry{Tenant: "acme", What: "x"})
	if d, _ := c.Sub("acme"); d == was {
		t.Error("an entry of acme does not change its digest")
	}
}

// Rules 4 and 5: what is handed in is not changed and not kept, and answers are memory of their own.
func TestMemory(t *testing.T) {
	c, body := New(), []byte("body")
	log, _ := c.Add(Entry{Tenant: "a", What: "x", Body: body})
	was, head := bytes.Clone(log), c.Head()
	copy(body, "XXXX")
	if !bytes.Equal(log, was) || c.Head() != head {
		t.Fatal("Add kept a body")
	}
	more, _ := c.Add(Entry{Tenant: "a", What: "x", Body: body})
	if string(body) != "XXXX" || !bytes.Equal(log, was) {
		t.Fatal("Add changed a body, or an answer ahead")
	}
	log = append(log, more...)
	was, head = bytes.Clone(log), c.Head()
	l, _, _ := Entries(log)
	of, _ := Of(log, "a")
	r, _ := Resume(log)
	for _, b := range [][]byte{l[0].Body, l[1].Body, of[0], of[1]} {
		clear(append(b, 1, 2, 3, 4))
		clear(b)
	}
	if !bytes.Equal(log, was) || string(l[1].Body) != strings.Repeat("\x00", 4) {
		t.Fatal("answers share the memory of the log")
	}
	clear(log)
	if r.Head() != head {
		t.Fatal("Resume kept the log")
	}
	clear(more)
	if e, _ := Verify(was, c.Head()); e != api.OK {
		t.Fatal("a chain keeps what it answered")
	}
}
