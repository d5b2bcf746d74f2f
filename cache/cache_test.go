package cache

import (
	"math"
	"strconv"
	"strings"
	"testing"

	"belfry/api"
)

func put(t *testing.T, c *Cache, tenant, key, stamp, text string) {
	t.Helper()
	if e := c.Put(tenant, key, stamp, text); e != api.OK {
		t.Fatalf("Put(%q, %q) = %d", tenant, key, e)
	}
}

// has asks for an answer that should be there.
func has(t *testing.T, c *Cache, tenant, key, stamp, want string) {
	t.Helper()
	if s, ok := c.Get(tenant, key, stamp); s != want || !ok {
		t.Errorf("Get(%q, %q, %q) = %q, %v, want %q", tenant, key, stamp, s, ok, want)
	}
}

// hasNot asks for an answer that should not.
func hasNot(t *testing.T, c *Cache, tenant, key, stamp string) {
	t.Helper()
	if s, ok := c.Get(tenant, key, stamp); s != "" || ok {
		t.Errorf("Get(%q, %q, %q) = %q, %v", tenant, key, stamp, s, ok)
	}
}

// counts holds a tenant's answers and counts against what they should be.
func counts(t *testing.T, c *Cache, tenant string, answers int, hits, misses int64) {
	t.Helper()
	if n := c.Counts(tenant); n != (Count{hits, misses}) || c.Len(tenant) != answers {
		t.Errorf("%q: %v, %d answers, want %d, %d, %d", tenant, n, c.Len(tenant), hits, misses, answers)
	}
}

// The chapter's example.
func TestExample(t *testing.T) {
	c := New(2)
	put(t, c, "a", "x", "1", "X")
	put(t, c, "a", "y", "1", "Y")
	has(t, c, "a", "x", "1", "X")
	put(t, c, "a", "z", "1", "Z")
	hasNot(t, c, "a", "y", "1")
	hasNot(t, c, "a", "x", "2")
	hasNot(t, c, "a", "x", "1")
	has(t, c, "a", "z", "1", "Z")
	counts(t, c, "a", 1, 2, 3)
}

// P22.2: caches that can not be, a nil one, and one that New did not make.
func TestNil(t *testing.T) {
	all := []*Cache{nil, {}}
	for _, most := range []int{0, -1, 65, math.MinInt, math.MaxInt} {
		c := New(most)
		if c != nil {
			t.Errorf("New(%d) is a cache", most)
		}
		all = append(all, c)
	}
	long := strings.Repeat("x", api.MaxText+1)
	for _, c := range all {
		if c.Put("a", "x", "1", "X") != api.ErrNil || c.Put("a", "x", "1", long) != api.ErrNil {
			t.Error("a nil cache takes something")
		}
		hasNot(t, c, "a", "x", "1")
		counts(t, c, "a", 0, 0, 0)
		if c.Forget("a") != 0 || c.Clear() != 0 {
			t.Error("a nil cache had answers")
		}
	}
}

// P22.2: a new one has no answers; one that is asked of it is a miss, of that tenant alone.
func TestEmpty(t *testing.T) {
	for _, most := range []int{1, 2, api.MaxCache} {
		c := New(most)
		counts(t, c, "a", 0, 0, 0)
		hasNot(t, c, "a", "", "")
		hasNot(t, c, "a", "x", "1")
		counts(t, c, "a", 0, 0, 2)
		counts(t, c, "b", 0, 0, 0)
		if c.Forget("a") != 0 || c.Clear() != 0 {
			t.Error("there were answers")
		}
		counts(t, c, "a", 0, 0, 2)
	}
}

// P22.2: any text is a tenant, a key, a stamp; an empty text is an answer.
func TestAnyText(t *testing.T) {
	c := New(3)
	texts := []string{"", "\x00", "\xff\xfe", "é\n", " "}
	for _, tenant := range texts {
		for _, key := range texts[:3] {
			put(t, c, tenant, key, tenant+key, "of "+tenant+key)
		}
	}
	put(t, c, "empty", "", "", "")
	for _, tenant := range texts {
		for _, key := range texts[:3] {
			has(t, c, tenant, key, tenant+key, "of "+tenant+key)
		}
		counts(t, c, tenant, 3, 3, 0)
	}
	has(t, c, "empty", "", "", "")
	counts(t, c, "empty", 1, 1, 0)
}

// P22.2: an answer with another stamp goes, and is not there with its own stamp either.
func TestStamp(t *testing.T) {
	c := New(3)
	put(t, c, "a", "x", "1", "X")
	put(t, c, "a", "y", "1", "Y")
	for _, stamp := range []string{"", "1 ", "11", "2"} {
		put(t, c, "a", "x", "1", "X")
		has(t, c, "a", "x", "1", "X")
		hasNot(t, c, "a", "x", stamp)
		hasNot(t, c, "a", "x", "1")
	}
	counts(t, c, "a", 1, 4, 8)
	has(t, c, "a", "y", "1", "Y")
	hasNot(t, c, "a", "y", "2")
	counts(t, c, "a", 0, 5, 9)
}

// P22.2: an answer takes the place of the one of that key, and its stamp; it is the first then.
func TestPutAgain(t *testing.T) {
	c := New(2)
	put(t, c, "a", "x", "1", "X")
	put(t, c, "a", "y", "1", "Y")
	put(t, c, "a", "x", "2", "XX")
	counts(t, c, "a", 2, 0, 0)
	put(t, c, "a", "z", "1", "Z")
	hasNot(t, c, "a", "y", "1")
	has(t, c, "a", "x", "2", "XX")
	hasNot(t, c, "a", "x", "1")
}

// P22.2: how long a text and a key may be; a stamp has no bound. A refused answer changes nothing.
func TestSizes(t *testing.T) {
	c := New(2)
	text, key := strings.Repeat("t", api.MaxText), strings.Repeat("k", 8*api.MaxText)
	put(t, c, "a", key, text+key, text)
	put(t, c, "a", "x", "1", "X")
	for _, x := range []struct{ key, text string }{{"x", text + "t"}, {key + "k", "X"}, {key + "k", text + "t"}} {
		for _, tenant := range []string{"a", "b"} {
			if e := c.Put(tenant, x.key, "2", x.text); e != api.ErrSize {
				t.Errorf("Put of %d bytes by %d = %d", len(x.text), len(x.key), e)
			}
		}
	}
	counts(t, c, "a", 2, 0, 0)
	counts(t, c, "b", 0, 0, 0)
	has(t, c, "a", "x", "1", "X")
	has(t, c, "a", key, text+key, text)
	// A refused answer takes no place among the sixteen.
	for i := range api.MaxTenants - 1 {
		put(t, c, strconv.Itoa(i), "x", "1", "X")
	}
}

// P22.2: answers of MaxTenants; ErrFull ahead of ErrSize; who has some may put more; where one's answers have gone another one has room.
func TestFull(t *testing.T) {
	c := New(2)
	for i := range api.MaxTenants {
		put(t, c, strconv.Itoa(i), "x", "1", "X")
	}
	long := strings.Repeat("t", api.MaxText+1)
	if c.Put("a", "x", "1", "X") != api.ErrFull || c.Put("a", "x", "1", long) != api.ErrFull || c.Put("3", "x", "1", long) != api.ErrSize {
		t.Error("Put where there is no room")
	}
	hasNot(t, c, "a", "x", "1")
	counts(t, c, "a", 0, 0, 1)
	for _, key := range []string{"y", "z"} {
		put(t, c, "3", key, "1", "X")
	}
	hasNot(t, c, "5", "x", "2") // its only answer goes
	put(t, c, "a", "x", "1", "X")
	if e := c.Put("5", "x", "1", "X"); e != api.ErrFull {
		t.Errorf("Put = %d", e)
	}
	if c.Forget("3") != 2 || c.Put("5", "x", "1", "X") != api.OK || c.Put("3", "x", "1", "X") != api.ErrFull {
		t.Error("Put behind Forget")
	}
	if c.Clear() != api.MaxTenants || c.Put("3", "x", "1", "X") != api.OK {
		t.Error("Put behind Clear")
	}
}

// P22.3: all of a tenant's answers go, or all of all tenants'; the counts stay.
func TestForget(t *testing.T) {
	c := New(3)
	for _, tenant := range []string{"a", "b", "c"} {
		for _, key := range []string{"x", "y", "z", "w"} {
			put(t, c, tenant, key, "1", key)
		}
		has(t, c, tenant, "z", "1", "z")
		hasNot(t, c, tenant, "x", "1")
	}
	if n := c.Forget("b"); n != 3 || c.Forget("b") != 0 || c.Forget("d") != 0 {
		t.Errorf("Forget = %d", n)
	}
	counts(t, c, "a", 3, 1, 1)
	counts(t, c, "b", 0, 1, 1)
	hasNot(t, c, "b", "z", "1")
	put(t, c, "b", "v", "1", "V")
	if n := c.Clear(); n != 7 || c.Clear() != 0 {
		t.Errorf("Clear = %d", n)
	}
	counts(t, c, "a", 0, 1, 1)
	counts(t, c, "b", 0, 1, 2)
	counts(t, c, "c", 0, 1, 1)
	hasNot(t, c, "a", "z", "1")
}
