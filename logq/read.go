package logq

import (
	"belfry/api"
	"belfry/cursor"
	"belfry/scan"
)

// reader is a text that is read, and what it has said so far.
type reader struct {
	cursor.Cursor
	query api.LogQuery
}

// read reads the whole text.
func (r *reader) read() {
	r.Blanks()
	r.query.Match = r.Matchers()
	for r.more() {
		does := r.step()
		does()
	}
}

// more goes over the blanks ahead of a step, without which it can not stand; false at the end.
func (r *reader) more() bool {
	ahead := r.Blanks()
	if r.Rest() == "" {
		return false
	}
	if ahead == 0 {
		r.Fail(r.At())
	}
	return true
}

// step reads the sign with which a step begins, and tells what the step does.
func (r *reader) step() func() {
	switch {
	case r.Takes("|="):
		return r.has
	case r.Takes("|"):
		return r.named
	}
	r.Need("!")
	r.Need("=")
	return r.hasNot
}

func (r *reader) has() {
	r.test(api.Matcher{Op: api.MHas, Value: r.Value()})
}

func (r *reader) hasNot() {
	r.test(api.Matcher{Op: api.MNot, Value: r.Value()})
}

func (r *reader) test(m api.Matcher) {
	r.query.Tests = append(r.query.Tests, m)
}

// named reads a step that begins with a word: a level, a limit, or the test of a key, which may be called so as well.
func (r *reader) named() {
	r.Blanks()
	at := r.At()
	word := r.Word()
	r.Blanks()
	_, n, _ := scan.Operator(r.Rest())
	switch {
	case n == 0 && word == level:
		r.set(&r.query.Level, maxLevel, at)
	case n == 0 && word == limit:
		r.set(&r.query.Limit, MaxLimit, at)
	default:
		r.test(r.Matcher(word))
	}
}

// set reads the number of a level or a limit, whose word stands at a place and may stand once.
func (r *reader) set(to *int, most, at int) {
	if *to != 0 {
		r.Fail(at)
	}
	*to = r.Number(r.Cut(scan.Digits(r.Rest())), most)
}
