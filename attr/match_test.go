package attr

import (
	"math/rand"
	"slices"
	"strings"
	"testing"

	"belfry/api"
)

func ma(op int, key, value string) api.Matcher {
	return api.Matcher{Op: op, Key: key, Value: value}
}

// anyMatchers are matchers of few keys and values that can be.
func anyMatchers(r *rand.Rand, n int) []api.Matcher {
	keys := []string{"a", "b", "c", "d.e", "_"}
	values := []string{"", "1", "2", "12", "x y", "\"", "\\", "\n", "é"}
	var out []api.Matcher
	for range n {
		out = append(out, ma(1+r.Intn(4), keys[r.Intn(len(keys))], values[r.Intn(len(values))]))
	}
	return out
}

// P4.4: matchers that can be, and each error ahead of those named behind it.
func TestRightMatch(t *testing.T) {
	good := ma(api.MEq, "a", "1")
	for _, c := range []struct {
		l []api.Matcher
		e api.Errno
	}{
		{nil, api.OK},
		{[]api.Matcher{good, good}, api.OK},
		{[]api.Matcher{ma(api.MEq, "a", ""), ma(api.MNe, "b", ""), ma(api.MHas, "c", ""), ma(api.MNot, "d", "")}, api.OK},
		{[]api.Matcher{ma(api.MHas, strings.Repeat("k", 64), strings.Repeat("v", 256))}, api.OK},
		{slices.Repeat([]api.Matcher{good}, api.MaxMatch), api.OK},
		{slices.Repeat([]api.Matcher{good}, api.MaxMatch+1), api.ErrFull},
		{slices.Repeat([]api.Matcher{{}}, api.MaxMatch+1), api.ErrFull},
		{[]api.Matcher{ma(0, "a", "1")}, api.ErrOp},
		{[]api.Matcher{ma(5, "a", "1")}, api.ErrOp},
		{[]api.Matcher{ma(-1, "", "\xff")}, api.ErrOp},
		{[]api.Matcher{ma(api.MEq, "", "\xff")}, api.ErrKey},
		{[]api.Matcher{ma(api.MNot, strings.Repeat("k", 65), "x")}, api.ErrKey},
		{[]api.Matcher{ma(api.MNot, "k", strings.Repeat("v", 257))}, api.ErrValue},
		{[]api.Matcher{ma(api.MNe, "a", "\xff")}, api.ErrValue},
		{[]api.Matcher{good, ma(api.MEq, "a", "\xc3"), ma(9, "a", "x")}, api.ErrValue},
		{[]api.Matcher{good, ma(api.MEq, "1", "x"), ma(9, "a", "x")}, api.ErrKey},
		{[]api.Matcher{good, ma(9, "a", "x"), ma(api.MEq, "1", "x")}, api.ErrOp},
	} {
		if e := RightMatch(c.l); e != c.e {
			t.Errorf("RightMatch(%+v) = %d, want %d", c.l, e, c.e)
		}
	}
}

// P4.4: what holds of a value that is there, of one that is not, and of an empty one.
func TestFits(t *testing.T) {
	l := []api.Attr{at("a", "1"), at("b", "hello")}
	for _, c := range []struct {
		l    []api.Attr
		m    []api.Matcher
		want bool
	}{
		{nil, nil, true},
		{l, nil, true},
		{l, []api.Matcher{ma(api.MEq, "a", "1")}, true},
		{l, []api.Matcher{ma(api.MEq, "a", "")}, false},
		{l, []api.Matcher{ma(api.MEq, "a", "11")}, false},
		{l, []api.Matcher{ma(api.MEq, "A", "1")}, false},
		{l, []api.Matcher{ma(api.MEq, "z", "")}, true},
		{l, []api.Matcher{ma(api.MNe, "a", "1")}, false},
		{l, []api.Matcher{ma(api.MNe, "a", "2")}, true},
		{l, []api.Matcher{ma(api.MNe, "z", "1")}, true},
		{l, []api.Matcher{ma(api.MNe, "z", "")}, false},
		{nil, []api.Matcher{ma(api.MNe, "a", "1")}, true},
		{l, []api.Matcher{ma(api.MHas, "b", "ell")}, true},
		{l, []api.Matcher{ma(api.MHas, "b", "hello")}, true},
		{l, []api.Matcher{ma(api.MHas, "b", "hello!")}, false},
		{l, []api.Matcher{ma(api.MHas, "b", "Ell")}, false},
		{l, []api.Matcher{ma(api.MHas, "a", "")}, true},
		{l, []api.Matcher{ma(api.MHas, "z", "")}, true},
		{l, []api.Matcher{ma(api.MHas, "z", "x")}, false},
		{l, []api.Matcher{ma(api.MHas, "b", "h.*o")}, false},
		{l, []api.Matcher{ma(api.MNot, "b", "ell")}, false},
		{l, []api.Matcher{ma(api.MNot, "b", "x")}, true},
		{l, []api.Matcher{ma(api.MNot, "z", "x")}, true},
		{l, []api.Matcher{ma(api.MNot, "z", "")}, false},
		{l, []api.Matcher{ma(api.MEq, "a", "1"), ma(api.MHas, "b", "o")}, true},
		{l, []api.Matcher{ma(api.MEq, "a", "2"), ma(api.MHas, "b", "o")}, false},
		{l, []api.Matcher{ma(api.MEq, "a", "1"), ma(api.MHas, "b", "x")}, false},
		{l, []api.Matcher{ma(0, "a", "1")}, false},
		{l, []api.Matcher{ma(5, "a", "1")}, false},
		{l, []api.Matcher{ma(-4, "a", "2")}, false},
		{l, []api.Matcher{ma(api.MEq, "a", "1"), ma(0, "a", "1")}, false},
		{l, []api.Matcher{ma(api.MEq, "no key", "")}, true},
		{l, []api.Matcher{ma(api.MNe, "a", "\xff")}, true},
		{l, slices.Repeat([]api.Matcher{ma(api.MEq, "a", "1")}, 20), true},
		{[]api.Attr{at("b", "2"), at("a", "1"), at("b", "3")}, []api.Matcher{ma(api.MEq, "b", "2")}, true},
		{[]api.Attr{at("b", "2"), at("a", "1"), at("b", "3")}, []api.Matcher{ma(api.MEq, "b", "3")}, false},
		{[]api.Attr{at("no key", "\xff")}, []api.Matcher{ma(api.MHas, "no key", "\xff")}, true},
	} {
		if got := Fits(c.l, c.m); got != c.want {
			t.Errorf("Fits(%+v, %+v) = %v", c.l, c.m, got)
		}
	}
}

// P4.4: in order, none twice; what is too many is asked behind that, and ahead of what can not be.
func TestBoth(t *testing.T) {
	var eight []api.Matcher
	for i := range 8 {
		eight = append(eight, ma(api.MEq, "k"+string(rune('0'+i)), "v"))
	}
	for _, c := range []struct {
		a, b, want []api.Matcher
		e          api.Errno
	}{
		{nil, nil, nil, api.OK},
		{[]api.Matcher{ma(1, "b", "1")}, []api.Matcher{ma(1, "a", "1")}, []api.Matcher{ma(1, "a", "1"), ma(1, "b", "1")}, api.OK},
		{[]api.Matcher{ma(4, "a", "1"), ma(2, "a", "2"), ma(2, "a", "1")}, []api.Matcher{ma(3, "a", "0"), ma(1, "a", "9"), ma(2, "a", "1")},
			[]api.Matcher{ma(1, "a", "9"), ma(2, "a", "1"), ma(2, "a", "2"), ma(3, "a", "0"), ma(4, "a", "1")}, api.OK},
		{[]api.Matcher{ma(1, "b", ""), ma(1, "B", "z"), ma(1, "a.b", "z")}, []api.Matcher{ma(4, "ab", "a"), ma(1, "ab", "b")},
			[]api.Matcher{ma(1, "B", "z"), ma(1, "a.b", "z"), ma(1, "ab", "b"), ma(4, "ab", "a"), ma(1, "b", "")}, api.OK},
		{eight, nil, eight, api.OK},
		{eight, eight, eight, api.OK},
		{slices.Concat(eight, eight, eight), eight[:3], eight, api.OK},
		{eight, []api.Matcher{ma(1, "z", "1")}, nil, api.ErrFull},
		{eight[:5], []api.Matcher{ma(1, "z", "1"), ma(2, "z", "1"), ma(1, "z", "1"), ma(1, "z", "2"), eight[4]}, slices.Concat(eight[:5], []api.Matcher{ma(1, "z", "1"), ma(1, "z", "2"), ma(2, "z", "1")}), api.OK},
		{eight[:6], []api.Matcher{ma(1, "z", "1"), ma(2, "z", "1"), ma(1, "z", "2")}, nil, api.ErrFull},
		{eight, []api.Matcher{ma(0, "z", "1")}, nil, api.ErrFull},
		{[]api.Matcher{ma(0, "", "\xff")}, slices.Concat(eight), nil, api.ErrFull},
		{eight[:7], []api.Matcher{ma(0, "z", "1"), ma(0, "z", "1")}, nil, api.ErrOp},
		{slices.Repeat([]api.Matcher{ma(1, "1", "x")}, 30), nil, nil, api.ErrKey},
		{[]api.Matcher{ma(1, "z", "\xff")}, []api.Matcher{ma(1, "", "x")}, nil, api.ErrValue},
		{[]api.Matcher{ma(1, "", "x")}, []api.Matcher{ma(1, "z", "\xff")}, nil, api.ErrKey},
		{[]api.Matcher{ma(1, "z", "x"), ma(7, "y", "x")}, []api.Matcher{ma(1, "", "x")}, nil, api.ErrOp},
		{nil, []api.Matcher{ma(1, "z", "\xff"), ma(5, "a", "x")}, nil, api.ErrValue},
	} {
		asA, asB := slices.Clone(c.a), slices.Clone(c.b)
		got, e := Both(c.a, c.b)
		if !slices.Equal(got, c.want) || e != c.e {
			t.Errorf("Both(%+v, %+v) = %+v, %d, want %+v, %d", c.a, c.b, got, e, c.want, c.e)
		}
		clear(got)
		if !slices.Equal(c.a, asA) || !slices.Equal(c.b, asB) {
			t.Errorf("Both changed %+v, %+v", asA, asB)
		}
	}
}

// P4.8: a set fits Both just if it fits the one and the other; the order of the two plays no part; of matchers and their opposites it fits just one.
func TestFitsBoth(t *testing.T) {
	r := rand.New(rand.NewSource(44))
	opposite := map[int]int{api.MEq: api.MNe, api.MNe: api.MEq, api.MHas: api.MNot, api.MNot: api.MHas}
	fit := 0
	for range 30000 {
		l := anySet(r, 5)
		a, b := anyMatchers(r, r.Intn(5)), anyMatchers(r, r.Intn(5))
		both, e := Both(a, b)
		if e != api.OK {
			t.Fatalf("Both(%+v, %+v) = %d", a, b, e)
		}
		if Fits(l, both) != (Fits(l, a) && Fits(l, b)) {
			t.Fatalf("%+v fits Both of %+v and %+v: %v", l, a, b, Fits(l, both))
		}
		if Fits(l, both) {
			fit++
		}
		if turned, _ := Both(b, a); !slices.Equal(both, turned) {
			t.Fatalf("Both(%+v, %+v) = %+v, and turned %+v", a, b, both, turned)
		}
		if again, _ := Both(both, nil); !slices.Equal(both, again) {
			t.Fatalf("Both of %+v and none = %+v", both, again)
		}
		for _, m := range a {
			other := ma(opposite[m.Op], m.Key, m.Value)
			if Fits(l, []api.Matcher{m}) == Fits(l, []api.Matcher{other}) {
				t.Fatalf("%+v fits both %+v and %+v, or neither", l, m, other)
			}
		}
	}
	if fit < 1000 {
		t.Errorf("only %d sets fit: the test tells little", fit)
	}
}
