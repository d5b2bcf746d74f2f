package words

import (
	"belfry/api"
	"belfry/attr"
	"belfry/scan"
)

// Matchers reads matchers, one at least, as attr.MatchText writes them. (attr.ParseMatch lets blanks stand about the signs, and tells nothing of matchers that can not be.)
func (l *Line) Matchers(to *[]api.Matcher) bool {
	if !l.Take("{") {
		return false
	}
	for {
		var m api.Matcher
		if !l.key(&m.Key) || !l.operator(&m.Op) || !l.value(&m.Value) {
			return false
		}
		*to = append(*to, m)
		if !l.Take(", ") {
			return l.Take("}")
		}
	}
}

// key reads the letters of a key, however many there are.
func (l *Line) key(to *string) bool {
	*to = l.cut(scan.Word(l.rest))
	return *to != ""
}

func (l *Line) operator(to *int) bool {
	op, n, ok := scan.Operator(l.rest)
	*to = op
	l.cut(n)
	return ok
}

// value reads a text in quotes.
func (l *Line) value(to *string) bool {
	n, ok := scan.Quoted(l.rest)
	*to, _ = attr.Unquote(l.cut(n))
	return ok
}
