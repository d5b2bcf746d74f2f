package search

import (
	"slices"
	"strconv"
	"strings"
	"testing"

	"belfry/api"
	"belfry/store"
)

// outline tells a trace as a text: each span's owner and name, with its depth.
func outline(t *testing.T, hits []Hit, depths []int) string {
	t.Helper()
	if len(hits) != len(depths) {
		t.Fatalf("%d hits with %d depths", len(hits), len(depths))
	}
	var out []string
	for i, h := range hits {
		out = append(out, h.Owner+h.R.Name+strconv.Itoa(depths[i]))
	}
	return strings.Join(out, " ")
}

// P18.4: roots in the store's order, each with all under it; then circles; source by source.
func TestTrace(t *testing.T) {
	other := span(t, "other", "{}", 1, 1, 0)
	other.Trace = [16]byte{2}
	child := span(t, "lost", "{}", 2, 9, 1)
	child.Trace = [16]byte{2}
	for _, c := range []struct {
		what string
		l    []api.Record
		want string
	}{
		{"none", nil, ""},
		{"another trace", []api.Record{other}, ""},
		{"one", []api.Record{span(t, "a", "{}", 1, 1, 0)}, "a0"},
		{"a child", []api.Record{span(t, "b", "{}", 1, 2, 1), span(t, "a", "{}", 5, 1, 0)}, "a0 b1"},
		{"two roots", []api.Record{span(t, "b", "{}", 5, 2, 0), span(t, "a", "{}", 1, 1, 0)}, "a0 b0"},
		{"roots of one time", []api.Record{span(t, "b", "{}", 1, 2, 0), span(t, "a", "{}", 1, 1, 0)}, "b0 a0"},
		{"a parent that is not there", []api.Record{span(t, "b", "{}", 1, 2, 77), span(t, "a", "{}", 2, 3, 2)}, "b0 a1"},
		{"children in order", []api.Record{span(t, "a", "{}", 9, 1, 0), span(t, "c", "{}", 7, 3, 1), span(t, "b", "{}", 5, 2, 1), span(t, "d", "{}", 7, 4, 1)}, "a0 b1 c1 d1"},
		{"each with all under it", []api.Record{span(t, "a", "{}", 1, 1, 0), span(t, "b", "{}", 2, 2, 1), span(t, "c", "{}", 3, 3, 1), span(t, "d", "{}", 4, 4, 2), span(t, "e", "{}", 5, 5, 3), span(t, "f", "{}", 6, 6, 4), span(t, "g", "{}", 7, 7, 2), span(t, "h", "{}", 8, 8, 0)}, "a0 b1 d2 f3 g2 c1 e2 h0"},
		{"another trace's parent", []api.Record{other, span(t, "b", "{}", 3, 2, 1), span(t, "a", "{}", 4, 4, 2)}, "b0 a1"},
		{"another trace's child", []api.Record{span(t, "a", "{}", 4, 1, 0), child}, "a0"},
		{"its own parent", []api.Record{span(t, "a", "{}", 1, 1, 1), span(t, "b", "{}", 2, 2, 0), span(t, "c", "{}", 3, 3, 1)}, "b0 a0 c1"},
		{"the Id 0", []api.Record{span(t, "a", "{}", 1, 1, 0), span(t, "b", "{}", 2, 0, 7), span(t, "c", "{}", 3, 3, 0)}, "b0 a1 c1"},
		{"the Id 0, its own parent", []api.Record{span(t, "a", "{}", 1, 1, 0), span(t, "b", "{}", 2, 0, 0), span(t, "c", "{}", 3, 3, 7)}, "c0 a0 b0"},
		{"a circle", []api.Record{span(t, "a", "{}", 1, 1, 3), span(t, "b", "{}", 2, 2, 1), span(t, "c", "{}", 3, 3, 2)}, "a0 b1 c2"},
		{"a circle behind a root", []api.Record{span(t, "a", "{}", 1, 1, 2), span(t, "b", "{}", 2, 2, 1), span(t, "c", "{}", 3, 3, 0), span(t, "d", "{}", 4, 4, 3)}, "c0 d1 a0 b1"},
		{"two circles", []api.Record{span(t, "a", "{}", 1, 1, 2), span(t, "c", "{}", 2, 3, 4), span(t, "b", "{}", 3, 2, 1), span(t, "d", "{}", 4, 4, 3)}, "a0 b1 c0 d1"},
		{"what hangs at a circle", []api.Record{span(t, "a", "{}", 1, 1, 2), span(t, "b", "{}", 2, 2, 1), span(t, "c", "{}", 3, 3, 1), span(t, "d", "{}", 4, 4, 3)}, "a0 b1 c1 d2"},
		{"what hangs at a circle, ahead of it", []api.Record{span(t, "d", "{}", 1, 4, 3), span(t, "c", "{}", 2, 3, 1), span(t, "a", "{}", 3, 1, 2), span(t, "b", "{}", 4, 2, 1)}, "d0 c0 a0 b1"},
		{"lines and points", []api.Record{line(t, "x", "{}", 1), {Kind: api.KPoint, Name: "up"}}, ""},
	} {
		hits, depths := Trace([]Source{{Store: made(t, c.l...)}}, [16]byte{1})
		if got := outline(t, hits, depths); got != c.want {
			t.Errorf("%s = %s, want %s", c.what, got, c.want)
		}
	}
}

// P18.4, P18.5: source by source; each as it shows its spans, whose parents may be out of its scope.
func TestTraceSources(t *testing.T) {
	a := made(t, span(t, "a", `{env="prod"}`, 1, 1, 0), span(t, "b", `{env="test", user="ann"}`, 2, 2, 1), span(t, "c", `{env="prod", user="bob"}`, 3, 3, 2), span(t, "d", `{env="prod"}`, 4, 4, 1))
	b := made(t, span(t, "e", `{}`, 0, 5, 1), span(t, "f", `{}`, 1, 6, 5))
	prod := api.View{Owner: "else", Scope: match(t, `{env="prod"}`), Hidden: []string{"user", "none"}}
	hits, depths := Trace([]Source{{Owner: "B", Store: b}, {Owner: "N"}, {Owner: "A", Store: a}, {Owner: "P", Store: a, View: prod}}, [16]byte{1})
	if got := outline(t, hits, depths); got != "Be0 Bf1 Aa0 Ab1 Ac2 Ad1 Pa0 Pd1 Pc0" {
		t.Errorf("Trace = %s", got)
	}
	want := `{} {} {env="prod"} {env="test", user="ann"} {env="prod", user="bob"} {env="prod"} {env="prod"} {env="prod"} {env="prod"} `
	var text strings.Builder
	for _, h := range hits {
		line := Text([]Hit{h})
		text.WriteString(line[strings.IndexByte(line, '{'):len(line)-1] + " ")
	}
	if text.String() != want {
		t.Errorf("attributes %s, want %s", text.String(), want)
	}
	circle := api.View{Scope: []api.Matcher{{Op: api.MNe, Key: "cut", Value: "1"}}}
	s := made(t, span(t, "a", `{}`, 1, 1, 3), span(t, "b", `{}`, 2, 2, 1), span(t, "c", `{cut="1"}`, 3, 3, 2))
	hits, depths = Trace([]Source{{Store: s, View: circle}}, [16]byte{1})
	if got := outline(t, hits, depths); got != "a0 b1" {
		t.Errorf("a circle that is cut = %s", got)
	}
	if hits, depths := Trace(nil, [16]byte{}); len(hits) != 0 || len(depths) != 0 {
		t.Errorf("Trace of no sources = %v, %v", hits, depths)
	}
}

// P1: the longest chain, the widest family and the greatest circle end soon.
func TestTraceGreatest(t *testing.T) {
	id := func(n int) [8]byte { return [8]byte{byte(n), byte(n >> 8), 1} }
	for what, parent := range map[string]func(n int) [8]byte{
		"a chain":  func(n int) [8]byte { return id(n - 1) },
		"a family": func(n int) [8]byte { return id(min(n, 0)) },
		"a circle": func(n int) [8]byte { return id((n + api.MaxStore - 1) % api.MaxStore) },
		"roots":    func(n int) [8]byte { return [8]byte{} },
	} {
		s := store.New(api.MaxStore)
		for n := range api.MaxStore {
			s.Put(api.Record{Kind: api.KSpan, T: int64(n), Id: id(n), Parent: parent(n)})
		}
		hits, depths := Trace([]Source{{Store: s}}, [16]byte{})
		if len(hits) != api.MaxStore || len(depths) != api.MaxStore {
			t.Errorf("%s: %d hits", what, len(hits))
		}
		deepest := slices.Max(depths)
		if want := map[string]int{"a chain": api.MaxStore - 1, "a family": 1, "a circle": api.MaxStore - 1}[what]; deepest != want {
			t.Errorf("%s is %d deep, want %d", what, deepest, want)
		}
	}
}
