package ident

import (
	"math/rand"
	"regexp"
	"strings"
	"testing"

	"belfry/api"
)

var (
	longest = strings.Repeat("n", 32)
	ann     = api.Ident{Tenant: "acme", User: "ann"}
)

// The examples of the chapter.
func TestExamples(t *testing.T) {
	if i, e, at := Parse("belfry:acme/ann"); i != ann || e != api.OK || at != 0 {
		t.Errorf("Parse = %v, %d, %d", i, e, at)
	}
	if i, e, at := Parse("belfry:acme/ann#admin"); i != (api.Ident{Tenant: "acme", User: "ann", Admin: true}) || e != api.OK || at != 0 {
		t.Errorf("Parse = %v, %d, %d", i, e, at)
	}
	for s, want := range map[string]int{"belfry:Acme/x": 7, "belfry:a": 8} {
		if i, e, at := Parse(s); i != (api.Ident{}) || e != api.ErrIdent || at != want {
			t.Errorf("Parse(%q) = %v, %d, %d", s, i, e, at)
		}
	}
	x := New()
	if n, e := x.Open("belfry:acme/ann", 5, 10); n != 1 || e != api.OK {
		t.Errorf("Open = %d, %d", n, e)
	}
	if i, e := x.Who(1, 14); i != ann || e != api.OK {
		t.Errorf("Who(1, 14) = %v, %d", i, e)
	}
	if i, e := x.Who(1, 15); i != (api.Ident{}) || e != api.ErrNone {
		t.Errorf("Who(1, 15) = %v, %d", i, e)
	}
}

// P10.1: names, and who can be.
func TestNameAndRight(t *testing.T) {
	for _, s := range []string{"a", "z", "acme", "a0", "a-", "z9-", longest} {
		if !Name(s) {
			t.Errorf("%q is no name", s)
		}
		for _, admin := range []bool{false, true} {
			if e := Right(api.Ident{Tenant: s, User: "b", Admin: admin}); e != api.OK {
				t.Errorf("Right with the tenant %q = %d", s, e)
			}
			if e := Right(api.Ident{Tenant: "b", User: s, Admin: admin}); e != api.OK {
				t.Errorf("Right with the user %q = %d", s, e)
			}
		}
	}
	for _, s := range []string{"", "0", "-", "-a", "A", "aB", "a_", "a.b", "a/b", "a#admin", " a", "a ", "ä", "a\xff", "\x00", "a\n", longest + "n"} {
		if Name(s) {
			t.Errorf("%q is a name", s)
		}
		for _, i := range []api.Ident{{Tenant: s, User: "b"}, {Tenant: "b", User: s}, {Tenant: s, User: s, Admin: true}} {
			if e := Right(i); e != api.ErrIdent {
				t.Errorf("Right(%v) = %d", i, e)
			}
			if text, e := Print(i); text != "" || e != api.ErrIdent {
				t.Errorf("Print(%v) = %q, %d", i, text, e)
			}
		}
	}
}

// P10.1: where a text is at fault.
func TestParseFaults(t *testing.T) {
	for s, want := range map[string]int{
		"":                                  0,
		"x":                                 0,
		"Belfry:a/b":                        0,
		" belfry:a/b":                       0,
		"b":                                 1,
		"bell":                              3,
		"belfry":                            6,
		"belfry;a/b":                        6,
		"belfry:":                           7,
		"belfry:/b":                         7,
		"belfry:1/b":                        7,
		"belfry:-a/b":                       7,
		"belfry: a/b":                       7,
		"belfry:\xffa/b":                    7,
		"belfry:a":                          8,
		"belfry:a#admin":                    8,
		"belfry:a:b":                        8,
		"belfry:aB/b":                       8,
		"belfry:a/":                         9,
		"belfry:a//b":                       9,
		"belfry:a/#admin":                   9,
		"belfry:a/B":                        9,
		"belfry:a/9":                        9,
		"belfry:a/b/":                       10,
		"belfry:a/b ":                       10,
		"belfry:a/b\x00":                    10,
		"belfry:a/bB":                       10,
		"belfry:a/b##admin":                 11,
		"belfry:a/b#":                       11,
		"belfry:a/b#Admin":                  11,
		"belfry:a/b#adm":                    14,
		"belfry:a/b#admim":                  15,
		"belfry:a/b#admin ":                 16,
		"belfry:a/b#admin#admin":            16,
		"belfry:a/b#admin/c":                16,
		"belfry:a/b#admins":                 16,
		"belfry:" + longest:                 39,
		"belfry:" + longest + "n/b":         39,
		"belfry:" + longest + "-":           39,
		"belfry:" + longest + "#":           39,
		"belfry:a/" + longest + "n":         41,
		"belfry:a/" + longest + "n#admin":   41,
		"belfry:a/" + longest + "/":         41,
		"belfry:a/" + longest + "#x":        42,
		"belfry:" + strings.Repeat("a", 99): 39,
	} {
		if i, e, at := Parse(s); i != (api.Ident{}) || e != api.ErrIdent || at != want {
			t.Errorf("Parse(%q) = %v, %d, %d, want %d", s, i, e, at, want)
		}
		x := New()
		if n, e := x.Open(s, 1, 1); n != 0 || e != api.ErrIdent || x.Len() != 0 {
			t.Errorf("Open(%q) = %d, %d", s, n, e)
		}
	}
}

const aName = `[a-z][a-z0-9-]{0,31}`

var (
	whole = regexp.MustCompile(`^belfry:(` + aName + `)/(` + aName + `)(#admin)?$`)
	first = regexp.MustCompile(`^(b(e(l(f(r(y(:(` + aName + `(/(` + aName + `(#(a(d(m(in?)?)?)?)?)?)?)?)?)?)?)?)?)?)?)?$`)
)

// faultOf is the place of the first byte with which a text can not go on.
func faultOf(s string) int {
	for i := range len(s) {
		if !first.MatchString(s[:i+1]) {
			return i
		}
	}
	return len(s)
}

// someText is a peer's text, or nearly one.
func someText(r *rand.Rand) string {
	parts := []string{"belfry:", "acme", "/", "ann", "#admin"}
	if r.Intn(2) == 0 {
		parts = parts[:4]
	}
	for range r.Intn(3) {
		parts[r.Intn(len(parts))] = []string{"", "belfry", "a", "Z", "/", "#", "0", "-", ":", "\xff", "é", longest, "a" + longest, "#admin", "#adm"}[r.Intn(15)]
	}
	b := []byte(strings.Join(parts, ""))
	for range r.Intn(3) {
		at := r.Intn(len(b) + 1)
		switch c := "az09-/#:A\n"[r.Intn(10)]; {
		case r.Intn(2) == 0:
			b = append(b[:at:at], append([]byte{c}, b[at:]...)...)
		case at < len(b):
			b[at] = c
		}
	}
	return string(b)
}

// P10.1, P10.3: any text: who it is, by another reading of it; and what is read is printed as it was.
func TestParseAnyText(t *testing.T) {
	r := rand.New(rand.NewSource(1))
	good := 0
	for range 40000 {
		s := someText(r)
		i, e, at := Parse(s)
		m := whole.FindStringSubmatch(s)
		if m == nil {
			if i != (api.Ident{}) || e != api.ErrIdent || at != faultOf(s) {
				t.Fatalf("Parse(%q) = %v, %d, %d, want the place %d", s, i, e, at, faultOf(s))
			}
			continue
		}
		good++
		if i != (api.Ident{Tenant: m[1], User: m[2], Admin: m[3] != ""}) || e != api.OK || at != 0 {
			t.Fatalf("Parse(%q) = %v, %d, %d", s, i, e, at)
		}
		if text, e := Print(i); text != s || e != api.OK {
			t.Fatalf("Print(%v) = %q, %d, want %q", i, text, e, s)
		}
	}
	if good < 1000 {
		t.Fatalf("%d texts of somebody: too few", good)
	}
}

// P10.3: what is printed is read as it was.
func TestPrint(t *testing.T) {
	for text, i := range map[string]api.Ident{
		"belfry:acme/ann":                              ann,
		"belfry:a/b#admin":                             {Tenant: "a", User: "b", Admin: true},
		"belfry:x-/y--1":                               {Tenant: "x-", User: "y--1"},
		"belfry:" + longest + "/" + longest:            {Tenant: longest, User: longest},
		"belfry:" + longest + "/" + longest + "#admin": {Tenant: longest, User: longest, Admin: true},
	} {
		if s, e := Print(i); s != text || e != api.OK {
			t.Errorf("Print(%v) = %q, %d, want %q", i, s, e, text)
		}
		if back, e, at := Parse(text); back != i || e != api.OK || at != 0 {
			t.Errorf("Parse(%q) = %v, %d, %d", text, back, e, at)
		}
	}
}
