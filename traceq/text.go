package traceq

import (
	"strconv"

	"belfry/api"
	"belfry/attr"
	"belfry/cursor"
	"belfry/metricq"
)

// The words of a query's text.
const (
	spansWord      = "spans"
	namedWord      = "named"
	leastWord      = "least"
	withWord       = "with"
	descendantWord = "descendant"
	childWord      = "child"
	limitWord      = "limit"
)

// Parse reads a query from its text. Beside ErrQuery stands the place where it can not go on.
func Parse(s string) (q api.TraceQuery, e api.Errno, at int) {
	if len(s) > api.MaxLine {
		return api.TraceQuery{}, api.ErrSize, 0
	}
	r := reader{Cursor: cursor.Of(s)}
	defer func() {
		if recover() != nil {
			q, e, at = api.TraceQuery{}, api.ErrQuery, r.At()
		}
	}()
	r.read()
	if e := Right(r.query); e != api.OK {
		return api.TraceQuery{}, e, 0
	}
	return r.query, api.OK, 0
}

// Print tells a query as text.
func Print(q api.TraceQuery) (string, api.Errno) {
	if e := Right(q); e != api.OK {
		return "", e
	}
	return text(q), api.OK
}

// text tells the text of a query, all of which can be but for its length.
func text(q api.TraceQuery) string {
	s := spansWord + testText(q.First)
	switch q.Has {
	case descendant:
		s += " " + withWord + " " + descendantWord
	case child:
		s += " " + withWord + " " + childWord
	}
	s += testText(q.Second)
	if q.Limit != 0 {
		s += " " + limitWord + " " + strconv.Itoa(q.Limit)
	}
	return s
}

func testText(t api.SpanTest) string {
	s := ""
	if t.Name != "" {
		s += " " + namedWord + " " + attr.Quote(t.Name)
	}
	if t.Least != 0 {
		span, _ := metricq.Span(t.Least)
		s += " " + leastWord + " " + span
	}
	if len(t.Match) > 0 {
		s += " " + attr.MatchText(t.Match)
	}
	return s
}
