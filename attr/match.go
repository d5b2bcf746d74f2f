package attr

import (
	"cmp"
	"slices"
	"strings"

	"belfry/api"
)

// RightMatch tells whether matchers can be, or what is wrong with the first that can not.
func RightMatch(l []api.Matcher) api.Errno {
	if len(l) > api.MaxMatch {
		return api.ErrFull
	}
	return firstFault(l)
}

// firstFault is the error of the first matcher that can not be, however many there are.
func firstFault(l []api.Matcher) api.Errno {
	for _, m := range l {
		switch {
		case m.Op < api.MEq || m.Op > api.MNot:
			return api.ErrOp
		case !Key(m.Key):
			return api.ErrKey
		case !matchValue(m.Value):
			return api.ErrValue
		}
	}
	return api.OK
}

// Fits tells whether all matchers hold of a set.
func Fits(l []api.Attr, m []api.Matcher) bool {
	for _, one := range m {
		value, _ := Get(l, one.Key)
		if !holds(one, value) {
			return false
		}
	}
	return true
}

// holds tells whether a matcher holds of its key's value.
func holds(m api.Matcher, value string) bool {
	switch m.Op {
	case api.MEq:
		return value == m.Value
	case api.MNe:
		return value != m.Value
	case api.MHas:
		return strings.Contains(value, m.Value)
	case api.MNot:
		return !strings.Contains(value, m.Value)
	}
	return false
}

// Both tells all matchers of two lists, in order, none twice.
func Both(a, b []api.Matcher) ([]api.Matcher, api.Errno) {
	all := slices.Concat(a, b)
	e := firstFault(all) // ahead of the sorting: it is of the first of a, then of b
	slices.SortFunc(all, cmpMatch)
	all = slices.Compact(all)
	if len(all) > api.MaxMatch {
		return nil, api.ErrFull
	}
	if e != api.OK {
		return nil, e
	}
	return all, api.OK
}

// cmpMatch is the order of matchers; the operators' numbers rise in theirs.
func cmpMatch(a, b api.Matcher) int {
	return cmp.Or(cmp.Compare(a.Key, b.Key), cmp.Compare(a.Op, b.Op), cmp.Compare(a.Value, b.Value))
}
