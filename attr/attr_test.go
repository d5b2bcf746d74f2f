package attr

import (
	"cmp"
	"math/rand"
	"regexp"
	"slices"
	"strconv"
	"strings"
	"testing"
	"unicode/utf8"

	"belfry/api"
)

func at(key, value string) api.Attr {
	return api.Attr{Key: key, Value: value}
}

// someAttrs are n right attributes of different keys, not in order.
func someAttrs(n int) []api.Attr {
	var out []api.Attr
	for i := range n {
		out = append(out, at("k"+strconv.Itoa((i*7)%100), strconv.Itoa(i)))
	}
	return out
}

// anyAttrs are attributes of few keys and values, most of them right.
func anyAttrs(r *rand.Rand, n int) []api.Attr {
	keys := []string{"a", "b", "c", "d.e", "_", "Z", "a1", "ab", "", "1", "é"}
	values := []string{"1", "2", "x y", "\"", "\\", "\n", "é", "", "\xff"}
	var out []api.Attr
	for range n {
		k, v := keys[r.Intn(len(keys)-3)], values[r.Intn(len(values)-2)]
		if r.Intn(12) == 0 {
			k = keys[r.Intn(len(keys))]
		}
		if r.Intn(12) == 0 {
			v = values[r.Intn(len(values))]
		}
		out = append(out, at(k, v))
	}
	return out
}

// anySet is a set of at most n attributes.
func anySet(r *rand.Rand, n int) []api.Attr {
	var out []api.Attr
	for _, a := range anyAttrs(r, r.Intn(n+1)) {
		same := func(b api.Attr) bool { return a.Key == b.Key }
		if modelKey(a.Key) && modelValue(a.Value) && !slices.ContainsFunc(out, same) {
			out = append(out, a)
		}
	}
	slices.SortFunc(out, func(a, b api.Attr) int { return strings.Compare(a.Key, b.Key) })
	return out
}

var keyForm = regexp.MustCompile(`^[a-zA-Z_][a-zA-Z0-9_.]*$`)

func modelKey(s string) bool {
	return len(s) <= 64 && keyForm.MatchString(s) && !strings.Contains(s, "\n")
}

func modelValue(s string) bool {
	return len(s) >= 1 && len(s) <= 256 && utf8.ValidString(s)
}

// modelMake is Make by the chapter's words, one behind the other.
func modelMake(l []api.Attr) ([]api.Attr, api.Errno) {
	if len(l) > 16 {
		return nil, api.ErrFull
	}
	for _, a := range l {
		if !modelKey(a.Key) {
			return nil, api.ErrKey
		}
		if !modelValue(a.Value) {
			return nil, api.ErrValue
		}
	}
	for i := range l {
		for j := range i {
			if l[i].Key == l[j].Key {
				return nil, api.ErrTwice
			}
		}
	}
	var out []api.Attr
	for _, a := range l {
		n := 0
		for n < len(out) && out[n].Key < a.Key {
			n++
		}
		out = slices.Insert(out, n, a)
	}
	return out, api.OK
}

// P4.1: which texts can be keys.
func TestKey(t *testing.T) {
	long := strings.Repeat("k", api.MaxKey)
	for s, want := range map[string]bool{
		"a": true, "Z": true, "_": true, "_0": true, "a.b": true, "a..": true, "http.status_code": true, "__": true, long: true, "_" + long[1:]: true,
		"": false, "1": false, "1a": false, ".": false, ".a": false, "a b": false, " a": false, "a ": false, "a-b": false, "a\n": false, "a:": false, "é": false, "aé": false, "a\x00": false, "a\xff": false, long + "k": false,
	} {
		if Key(s) != want {
			t.Errorf("Key(%q) = %v", s, !want)
		}
	}
	for x := range 256 {
		b := string([]byte{byte(x)})
		for _, s := range []string{b, "a" + b, b + "a", "a" + b + "c"} {
			if Key(s) != modelKey(s) {
				t.Errorf("Key(%q) = %v", s, Key(s))
			}
		}
	}
}

// P4.1: which texts can be values: any right UTF-8 that is neither empty nor too long.
func TestValue(t *testing.T) {
	long := strings.Repeat("v", api.MaxValue)
	for s, want := range map[string]bool{
		"x": true, " ": true, "\n": true, "\x00": true, "\"": true, "é": true, "\U0001f514": true, "\ufffd": true, long: true, strings.Repeat("é", 128): true,
		"": false, "\xff": false, "a\x80": false, "\xc3": false, "\xc0\x80": false, "\xed\xa0\x80": false, "\xf4\x90\x80\x80": false, long + "v": false, strings.Repeat("é", 128) + "v": false, strings.Repeat("é", 129): false, long[1:] + "\xff": false,
	} {
		if Value(s) != want {
			t.Errorf("Value(%q) = %v", s, !want)
		}
	}
}

// P4.1: a set in order, and each error ahead of those named behind it.
func TestMake(t *testing.T) {
	for _, c := range []struct {
		l    []api.Attr
		want []api.Attr
		e    api.Errno
	}{
		{nil, nil, api.OK},
		{[]api.Attr{at("b", "2"), at("a", "1")}, []api.Attr{at("a", "1"), at("b", "2")}, api.OK},
		{[]api.Attr{at("b", "1"), at("a", "2"), at("B", "3"), at("ab", "4"), at("a.b", "5"), at("_", "6"), at("a1", "7")},
			[]api.Attr{at("B", "3"), at("_", "6"), at("a", "2"), at("a.b", "5"), at("a1", "7"), at("ab", "4"), at("b", "1")}, api.OK},
		{[]api.Attr{at("1", "x")}, nil, api.ErrKey},
		{[]api.Attr{at("", "x")}, nil, api.ErrKey},
		{[]api.Attr{at("a", "")}, nil, api.ErrValue},
		{[]api.Attr{at("a", "\xff")}, nil, api.ErrValue},
		{[]api.Attr{at("1", "")}, nil, api.ErrKey},
		{[]api.Attr{at("b", ""), at("1", "x")}, nil, api.ErrValue},
		{[]api.Attr{at("1", "x"), at("b", "")}, nil, api.ErrKey},
		{[]api.Attr{at("a", "1"), at("a", "1")}, nil, api.ErrTwice},
		{[]api.Attr{at("a", "1"), at("b", "1"), at("a", "2")}, nil, api.ErrTwice},
		{[]api.Attr{at("a", "1"), at("a", "2"), at("b", "")}, nil, api.ErrValue},
		{[]api.Attr{at("a", "1"), at("a", "2"), at("-", "x")}, nil, api.ErrKey},
		{slices.Repeat([]api.Attr{at("", "")}, api.MaxAttrs+1), nil, api.ErrFull},
		{slices.Repeat([]api.Attr{at("a", "1")}, api.MaxAttrs+1), nil, api.ErrFull},
		{slices.Repeat([]api.Attr{at("a", "1")}, api.MaxAttrs), nil, api.ErrTwice},
		{someAttrs(api.MaxAttrs + 1), nil, api.ErrFull},
		{[]api.Attr{at(strings.Repeat("k", 64), strings.Repeat("v", 256))}, []api.Attr{at(strings.Repeat("k", 64), strings.Repeat("v", 256))}, api.OK},
		{[]api.Attr{at(strings.Repeat("k", 65), "v")}, nil, api.ErrKey},
		{[]api.Attr{at("k", strings.Repeat("v", 257))}, nil, api.ErrValue},
	} {
		as := slices.Clone(c.l)
		if got, e := Make(c.l...); !slices.Equal(got, c.want) || e != c.e {
			t.Errorf("Make(%q) = %q, %d, want %q, %d", c.l, got, e, c.want, c.e)
		}
		if !slices.Equal(c.l, as) {
			t.Errorf("Make changed %q to %q", as, c.l)
		}
	}
	if set, e := Make(someAttrs(api.MaxAttrs)...); e != api.OK || len(set) != api.MaxAttrs || Right(set) != api.OK {
		t.Errorf("Make of as many as may be = %q, %d", set, e)
	}
}

// P4.1: Make and Right of lists of all kinds, against the chapter's words; what is answered is new memory.
func TestMakeByModel(t *testing.T) {
	r := rand.New(rand.NewSource(41))
	for range 20000 {
		l := anyAttrs(r, r.Intn(5))
		if r.Intn(50) == 0 {
			l = anyAttrs(r, 15+r.Intn(4))
		}
		want, e := modelMake(l)
		as := slices.Clone(l)
		got, ge := Make(l...)
		if !slices.Equal(got, want) || ge != e {
			t.Fatalf("Make(%q) = %q, %d, want %q, %d", l, got, ge, want, e)
		}
		if e == api.OK && !slices.Equal(want, l) {
			e = api.ErrForm
		}
		if re := Right(l); re != e {
			t.Fatalf("Right(%q) = %d, want %d", l, re, e)
		}
		clear(got)
		if !slices.Equal(l, as) {
			t.Fatalf("the set of %q shares its memory", as)
		}
	}
}

// P4.1: Right of sets, of lists that are out of order, and at fault.
func TestRight(t *testing.T) {
	for _, c := range []struct {
		l []api.Attr
		e api.Errno
	}{
		{nil, api.OK},
		{[]api.Attr{at("a", "2"), at("b", "1")}, api.OK},
		{[]api.Attr{at("b", "1"), at("a", "2")}, api.ErrForm},
		{[]api.Attr{at("a", "1"), at("a", "2")}, api.ErrTwice},
		{[]api.Attr{at("b", "1"), at("a", "")}, api.ErrValue},
		{[]api.Attr{at("b", "1"), at("a ", "x")}, api.ErrKey},
		{someAttrs(17), api.ErrFull},
	} {
		if e := Right(c.l); e != c.e {
			t.Errorf("Right(%q) = %d, want %d", c.l, e, c.e)
		}
	}
}

// P4.2: the first attribute of a key counts, and an empty value that is there is there.
func TestGet(t *testing.T) {
	l := []api.Attr{at("b", "2"), at("a", "1"), at("b", "3"), at("", "n"), at("e", "")}
	for _, c := range []struct {
		key, want string
		ok        bool
	}{{"a", "1", true}, {"b", "2", true}, {"", "n", true}, {"e", "", true}, {"c", "", false}, {"A", "", false}} {
		if got, ok := Get(l, c.key); got != c.want || ok != c.ok {
			t.Errorf("Get(%q) = %q, %v", c.key, got, ok)
		}
	}
	if got, ok := Get(nil, "a"); got != "" || ok {
		t.Errorf("Get of none = %q, %v", got, ok)
	}
}

// P4.2: a key that is new, that was there, that goes; and the errors in their order.
func TestSet(t *testing.T) {
	full, _ := Make(someAttrs(16)...)
	for _, c := range []struct {
		l          []api.Attr
		key, value string
		want       []api.Attr
		e          api.Errno
	}{
		{nil, "a", "1", []api.Attr{at("a", "1")}, api.OK},
		{nil, "a", "", nil, api.OK},
		{[]api.Attr{at("a", "1"), at("c", "3")}, "b", "2", []api.Attr{at("a", "1"), at("b", "2"), at("c", "3")}, api.OK},
		{[]api.Attr{at("a", "1"), at("c", "3")}, "c", "4", []api.Attr{at("a", "1"), at("c", "4")}, api.OK},
		{[]api.Attr{at("a", "1"), at("c", "3")}, "a", "", []api.Attr{at("c", "3")}, api.OK},
		{[]api.Attr{at("c", "3"), at("a", "1")}, "b", "", []api.Attr{at("a", "1"), at("c", "3")}, api.OK},
		{[]api.Attr{at("a", "1"), at("b", "2"), at("a", "3")}, "a", "4", []api.Attr{at("a", "4"), at("b", "2")}, api.OK},
		{[]api.Attr{at("a", ""), at("b", "2")}, "a", "4", []api.Attr{at("a", "4"), at("b", "2")}, api.OK},
		{[]api.Attr{at("1", "x"), at("b", "2")}, "1", "", []api.Attr{at("b", "2")}, api.OK},
		{[]api.Attr{at("b", "2")}, "no key", "", []api.Attr{at("b", "2")}, api.OK},
		{[]api.Attr{at("b", "2")}, "no key", "x", nil, api.ErrKey},
		{[]api.Attr{at("b", "2")}, "a", "\xff", nil, api.ErrValue},
		{[]api.Attr{at("b", "")}, "no key", "x", nil, api.ErrValue},
		{[]api.Attr{at("b", "1"), at("b", "2")}, "a", "", nil, api.ErrTwice},
		{[]api.Attr{at("b", "1"), at("b", "2")}, "a", "1", nil, api.ErrTwice},
		{full, "zz", "1", nil, api.ErrFull},
		{full, "no key", "\xff", nil, api.ErrFull},
		{full, "zz", "", full, api.OK},
		{full, full[3].Key, full[3].Value, full, api.OK},
	} {
		as := slices.Clone(c.l)
		got, e := Set(c.l, c.key, c.value)
		if !slices.Equal(got, c.want) || e != c.e {
			t.Errorf("Set(%q, %q, %q) = %q, %d, want %q, %d", c.l, c.key, c.value, got, e, c.want, c.e)
		}
		clear(got)
		if !slices.Equal(c.l, as) {
			t.Errorf("Set changed %q", as)
		}
	}
}

// P4.2: other keys stay, in their order, twice too.
func TestWithout(t *testing.T) {
	l := []api.Attr{at("b", "2"), at("a", "1"), at("b", ""), at("", "n"), at("a", "3")}
	for _, c := range []struct {
		keys []string
		want []api.Attr
	}{
		{nil, l},
		{[]string{"x", "A"}, l},
		{[]string{"b"}, []api.Attr{at("a", "1"), at("", "n"), at("a", "3")}},
		{[]string{"a", "", "a"}, []api.Attr{at("b", "2"), at("b", "")}},
		{[]string{"a", "b", ""}, nil},
	} {
		as := slices.Clone(l)
		got := Without(l, c.keys...)
		if !slices.Equal(got, c.want) {
			t.Errorf("Without(%q, %q) = %q", l, c.keys, got)
		}
		clear(got)
		if !slices.Equal(l, as) {
			t.Fatalf("Without %q shares memory", c.keys)
		}
	}
	if got := Without(nil, "a"); len(got) != 0 {
		t.Errorf("Without of none = %q", got)
	}
}

// P4.2: which stands ahead.
func TestCmp(t *testing.T) {
	rising := [][]api.Attr{
		nil,
		{at("", "")},
		{at("A", "9")},
		{at("a", "")},
		{at("a", "1")},
		{at("a", "1"), at("a", "1")},
		{at("a", "1"), at("b", "1")},
		{at("a", "1"), at("b", "1"), at("c", "1")},
		{at("a", "1"), at("b", "2")},
		{at("a", "1"), at("c", "0")},
		{at("a", "10")},
		{at("a", "2")},
		{at("a", "é")},
		{at("a", "\xff")},
		{at("a.b", "1")},
		{at("aa", "0")},
		{at("b", "")},
		{at("b", ""), at("a", "")},
	}
	for i, a := range rising {
		for j, b := range rising {
			if got := Cmp(a, b); got != cmp.Compare(i, j) {
				t.Errorf("Cmp(%q, %q) = %d", a, b, got)
			}
		}
	}
	if Cmp(nil, []api.Attr{}) != 0 {
		t.Error("a nil list is not an empty one")
	}
}

// P4.7: Cmp is an order: of two lists one is ahead, or they are the same; and what is ahead of the one ahead is ahead.
func TestCmpIsAnOrder(t *testing.T) {
	r := rand.New(rand.NewSource(42))
	for range 30000 {
		a, b, c := anyAttrs(r, r.Intn(3)), anyAttrs(r, r.Intn(3)), anyAttrs(r, r.Intn(3))
		if Cmp(a, b) != -Cmp(b, a) || (Cmp(a, b) == 0) != slices.Equal(a, b) {
			t.Fatalf("Cmp(%q, %q) = %d, and %d", a, b, Cmp(a, b), Cmp(b, a))
		}
		if Cmp(a, b) <= 0 && Cmp(b, c) <= 0 && Cmp(a, c) > 0 {
			t.Fatalf("Cmp of %q, %q, %q goes in a circle", a, b, c)
		}
	}
}

// P4.2: keys and values in order; the walk can be left, and gone again; a list that is written over later plays no part.
func TestEach(t *testing.T) {
	l := []api.Attr{at("b", "2"), at("a", ""), at("b", "2"), at("", "x")}
	as := slices.Clone(l)
	seq := Each(l)
	clear(l)
	for range 2 {
		var got []api.Attr
		for k, v := range seq {
			got = append(got, at(k, v))
		}
		if !slices.Equal(got, as) {
			t.Errorf("Each = %q, want %q", got, as)
		}
	}
	n := 0
	for k := range seq {
		if n++; k == "a" {
			break
		}
	}
	if n != 2 {
		t.Errorf("%d steps until the break, want 2", n)
	}
	for k, v := range Each(nil) {
		t.Errorf("Each of none has %q, %q", k, v)
	}
}

// P4.9: Set of what Get tells changes nothing; Without of Without is Without; Get behind Set tells the value.
func TestSetGetWithout(t *testing.T) {
	r := rand.New(rand.NewSource(43))
	for range 5000 {
		l := anySet(r, 6)
		for _, a := range l {
			v, _ := Get(l, a.Key)
			if got, e := Set(l, a.Key, v); e != api.OK || !slices.Equal(got, l) {
				t.Fatalf("Set(%q, %q, %q) = %q, %d", l, a.Key, v, got, e)
			}
		}
		one := anySet(r, 1)
		one = append(one, at("q", "x"))
		got, e := Set(l, one[0].Key, one[0].Value)
		if v, ok := Get(got, one[0].Key); e != api.OK || !ok || v != one[0].Value || Right(got) != api.OK {
			t.Fatalf("Set(%q, %q) = %q, %d", l, one[0], got, e)
		}
		gone, e := Set(got, one[0].Key, "")
		if _, ok := Get(gone, one[0].Key); e != api.OK || ok {
			t.Fatalf("Set(%q, %q, none) = %q, %d", got, one[0].Key, gone, e)
		}
		any := anyAttrs(r, 6)
		keys := []string{"a", "c", any[0].Key}[:r.Intn(4)]
		once := Without(any, keys...)
		if twice := Without(once, keys...); !slices.Equal(once, twice) {
			t.Fatalf("Without(%q, %q) = %q, and again %q", any, keys, once, twice)
		}
	}
}
