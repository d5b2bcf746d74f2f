package traceq

import (
	"belfry/api"
	"belfry/cursor"
	"belfry/metricq"
	"belfry/scan"
)

// reader is a text that is read, and what it has said so far.
type reader struct {
	cursor.Cursor
	query api.TraceQuery
	turn  int // of the part that was read last
}

// word is what a part of a query begins with. It reads the rest of its part.
type word interface {
	read(r *reader)
}

// The words, and the sign {, that begin parts.
type (
	named  struct{}
	least  struct{}
	braces struct{}
	with   struct{}
	limit  struct{}
)

// The turns of parts: each stands behind those of lower turns, and once. The words of a test have theirs behind with again.
const (
	namedTurn = iota + 1
	leastTurn
	bracesTurn
	withTurn
	limitTurn = withTurn + bracesTurn + 1
)

// read reads the whole text.
func (r *reader) read() {
	r.Blanks()
	if at := r.At(); r.run() != spansWord {
		r.Fail(at)
	}
	for r.Blanks(); r.Rest() != ""; r.Blanks() {
		r.part()
	}
}

// run reads what stands together as a word does; it may be none.
func (r *reader) run() string {
	return r.Cut(scan.Run(r.Rest()))
}

// part reads a part, if its turn comes behind that of the part ahead of it.
func (r *reader) part() {
	at := r.At()
	w := r.word()
	turn := r.turnOf(w)
	if turn <= r.turn {
		r.Fail(at)
	}
	r.turn = turn
	w.read(r)
}

// word reads a word with which a part may begin; none, if another stands there. The sign { stays, since it is one of what it begins.
func (r *reader) word() word {
	switch r.run() {
	case namedWord:
		return named{}
	case leastWord:
		return least{}
	case withWord:
		return with{}
	case limitWord:
		return limit{}
	case "":
		return r.sign()
	}
	return nil
}

func (r *reader) sign() word {
	if r.Rest()[0] == '{' {
		return braces{}
	}
	return nil
}

// turnOf tells a word's turn; of none the lowest, which never comes.
func (r *reader) turnOf(w word) int {
	turn := 0
	switch w.(type) {
	case named:
		turn = namedTurn
	case least:
		turn = leastTurn
	case braces:
		turn = bracesTurn
	case with:
		return withTurn
	case limit:
		return limitTurn
	}
	if r.query.Has != nothing {
		turn += withTurn
	}
	return turn
}

// test tells the test of which parts are read now.
func (r *reader) test() *api.SpanTest {
	if r.query.Has != nothing {
		return &r.query.Second
	}
	return &r.query.First
}

func (named) read(r *reader) {
	r.Blanks()
	at := r.At()
	name := r.Value()
	if name == "" {
		r.Fail(at)
	}
	r.test().Name = name
}

func (least) read(r *reader) {
	r.Blanks()
	at := r.At()
	span, e := metricq.ParseSpan(r.run())
	if e != api.OK {
		r.Fail(at)
	}
	r.test().Least = span
}

func (braces) read(r *reader) {
	at := r.At()
	l := r.Matchers()
	if len(l) == 0 {
		r.Fail(at)
	}
	r.test().Match = l
}

func (with) read(r *reader) {
	r.Blanks()
	at := r.At()
	switch r.run() {
	case descendantWord:
		r.query.Has = descendant
	case childWord:
		r.query.Has = child
	default:
		r.Fail(at)
	}
}

func (limit) read(r *reader) {
	r.Blanks()
	r.query.Limit = r.Number(r.run(), MaxLimit)
}
