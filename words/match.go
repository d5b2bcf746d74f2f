package words

import (
	"belfry/api"
	"belfry/attr"
)

// Matchers reads matchers, one at least, as attr.MatchText writes them. (attr.ParseMatch lets blanks stand about the signs, and tells nothing of matchers that can not be.)
func (l *Line) Matchers(to *[]api.Matcher) bool {
	if !l.Take("{") {
		return false
	}
	for {
		var m api.Matcher
		if !l.key(&m.Key) || !l.operator(&m.Op) || !l.value(&m.Value) {
			return false
		}
		*to = append(*to, m)
		if !l.Take(", ") {
			return l.Take("}")
		}
	}
}

// key reads the letters of a key, however many there are.
func (l *Line) key(to *string) bool {
	n := 0
	for n < len(l.rest) && attr.Key("_"[:min(n, 1)]+l.rest[n:n+1]) {
		n++
	}
	*to = l.cut(n)
	return n > 0
}

func (l *Line) operator(to *int) bool {
	switch {
	case l.Take("=~"):
		*to = api.MHas
	case l.Take("="):
		*to = api.MEq
	case l.Take("!="):
		*to = api.MNe
	case l.Take("!~"):
		*to = api.MNot
	default:
		return false
	}
	return true
}

// value reads a text in quotes.
func (l *Line) value(to *string) bool {
	s, e := attr.Unquote(l.cut(quoted(l.rest)))
	*to = s
	return e == api.OK
}

// quoted tells how many bytes, from the beginning of a text on, stand in quotes, with these; all, if they do not end.
func quoted(s string) int {
	for at := 1; at < len(s); at++ {
		switch s[at] {
		case '\\':
			at++
		case '"':
			return at + 1
		}
	}
	return len(s)
}
