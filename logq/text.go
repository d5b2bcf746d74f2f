package logq

import (
	"strconv"
	"strings"

	"belfry/api"
	"belfry/attr"
	"belfry/cursor"
)

// The words of steps that are no tests.
const (
	level = "level"
	limit = "limit"
)

// Parse reads a query from its text. Beside ErrQuery stands the place where it can not go on.
func Parse(s string) (q api.LogQuery, e api.Errno, at int) {
	if len(s) > api.MaxLine {
		return api.LogQuery{}, api.ErrSize, 0
	}
	r := reader{Cursor: cursor.Of(s)}
	defer func() {
		if recover() != nil {
			q, e, at = api.LogQuery{}, api.ErrQuery, r.At()
		}
	}()
	r.read()
	if e := Right(r.query); e != api.OK {
		return api.LogQuery{}, e, 0
	}
	return r.query, api.OK, 0
}

// Print tells a query as text.
func Print(q api.LogQuery) (string, api.Errno) {
	if e := Right(q); e != api.OK {
		return "", e
	}
	return text(q), api.OK
}

// text tells the text of a query, all of which can be but for its length.
func text(q api.LogQuery) string {
	var s strings.Builder
	s.WriteString(attr.MatchText(q.Match))
	s.WriteString(setting(level, q.Level))
	for _, m := range q.Tests {
		s.WriteString(test(m))
	}
	s.WriteString(setting(limit, q.Limit))
	return s.String()
}

// setting tells the step of a word and its number; nothing, if that is not set.
func setting(word string, n int) string {
	if n == 0 {
		return ""
	}
	return " | " + word + " " + strconv.Itoa(n)
}

// test tells the step of a test.
func test(m api.Matcher) string {
	switch {
	case m.Key != "":
		braced := attr.MatchText([]api.Matcher{m})
		return " | " + braced[1:len(braced)-1]
	case m.Op == api.MHas:
		return " |= " + attr.Quote(m.Value)
	}
	return " != " + attr.Quote(m.Value)
}
