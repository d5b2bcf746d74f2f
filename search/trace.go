package search

import (
	"slices"

	"belfry/api"
	"belfry/attr"
)

// Trace tells all that sources show of a trace, each span behind its parent, and how deep it lies.
func Trace(l []Source, trace [16]byte) ([]Hit, []int) {
	var hits []Hit
	var depths []int
	for _, s := range l {
		t := treeOf(s.shownOf(trace))
		t.tellAll()
		hits = append(hits, s.hits(t.spans, t.order)...)
		depths = append(depths, t.depths...)
	}
	return hits, depths
}

// shownOf tells the spans of a trace that a source shows, as it shows them, in the store's order.
func (s Source) shownOf(trace [16]byte) []api.Record {
	return s.hide(slices.DeleteFunc(s.Store.Trace(trace), func(r api.Record) bool {
		return !attr.Fits(r.Attrs, s.View.Scope)
	}))
}

// tree is spans of one trace with their children, by their numbers; and what of it has been told.
type tree struct {
	spans    []api.Record
	children [][]int
	roots    []int // those whose parents are not there
	told     []bool
	order    []int
	depths   []int
}

func treeOf(spans []api.Record) *tree {
	t := &tree{spans: spans, children: make([][]int, len(spans)), told: make([]bool, len(spans))}
	numbers := make(map[[8]byte]int)
	for i, r := range spans {
		numbers[r.Id] = i
	}
	for i, r := range spans {
		if parent, ok := numbers[r.Parent]; ok {
			t.children[parent] = append(t.children[parent], i)
		} else {
			t.roots = append(t.roots, i)
		}
	}
	return t
}

// tellAll tells the roots, each with all under it; then what stands in circles, which no root leads to.
func (t *tree) tellAll() {
	for _, i := range t.roots {
		t.tell(i, 0)
	}
	for i := range t.spans {
		t.tell(i, 0)
	}
}

// tell puts a span, and all under it, behind what has been told.
func (t *tree) tell(i, depth int) {
	if t.told[i] {
		return
	}
	t.told[i] = true
	t.order = append(t.order, i)
	t.depths = append(t.depths, depth)
	for _, child := range t.children[i] {
		t.tell(child, depth+1)
	}
}
