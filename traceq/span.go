package traceq

import (
	"slices"

	"belfry/api"
	"belfry/attr"
)

// Fits tells whether a record is a span that passes a test.
func Fits(t api.SpanTest, r api.Record) bool {
	switch {
	case r.Kind != api.KSpan || r.To < r.T:
		return false
	case t.Name != "" && t.Name != r.Name:
		return false
	case lasts(r) < uint64(max(t.Least, 0)):
		return false
	}
	return attr.Fits(r.Attrs, t.Match)
}

// lasts tells how long a span takes that does not end ahead of its beginning. A signed number may be too small for that.
func lasts(r api.Record) uint64 {
	return uint64(r.To) - uint64(r.T)
}

// key is by what a child names its parent.
type key struct {
	trace [16]byte
	id    [8]byte
}

// family is spans by their parents. A span's number stands as one more than it is, so that 0 is none.
type family struct {
	first map[key]int // the first child of a parent
	next  []int       // of each span the next child of its parent
}

// familyOf puts the spans of a list by their parents, the last ones first, so that children rise.
func familyOf(l []api.Record) family {
	f := family{first: make(map[key]int), next: make([]int, len(l))}
	for i, r := range slices.Backward(l) {
		if r.Kind != api.KSpan {
			continue
		}
		parent := key{r.Trace, r.Parent}
		f.next[i] = f.first[parent]
		f.first[parent] = i + 1
	}
	return f
}

// leave tells the children of a span, which leave the family: those of spans with one Id are told once, and circles end.
func (f family) leave(r api.Record) []int {
	var l []int
	parent := key{r.Trace, r.Id}
	for n := f.first[parent]; n > 0; n = f.next[n-1] {
		l = append(l, n-1)
	}
	delete(f.first, parent)
	return l
}

// Under tells the numbers of the children of a span of a list; of all its descendants, if these are asked for.
func Under(l []api.Record, i int, all bool) []int {
	if i < 0 || i >= len(l) || l[i].Kind != api.KSpan {
		return nil
	}
	f := familyOf(l)
	found := f.leave(l[i])
	if all {
		for at := 0; at < len(found); at++ {
			found = append(found, f.leave(l[found[at]])...)
		}
		slices.Sort(found)
	}
	return slices.DeleteFunc(found, func(n int) bool { return n == i })
}
