package logq

import (
	"strconv"
	"strings"

	"belfry/api"
	"belfry/attr"
	"belfry/scan"
)

// reader is a text that is read from the left, and what it has said so far.
type reader struct {
	text  string
	at    int // how far it was read; of a fault its place
	query api.LogQuery
}

// fail throws that the text can not go on at a place. Parse catches it.
func (r *reader) fail(at int) {
	r.at = at
	panic(api.ErrQuery)
}

func (r *reader) rest() string {
	return r.text[r.at:]
}

// cut reads n bytes.
func (r *reader) cut(n int) string {
	s := r.rest()[:n]
	r.at += n
	return s
}

func (r *reader) blanks() string {
	return r.cut(scan.Blanks(r.rest()))
}

// takes reads a sign, if it comes next.
func (r *reader) takes(want string) bool {
	if !strings.HasPrefix(r.rest(), want) {
		return false
	}
	r.cut(len(want))
	return true
}

// need reads a sign that must come next.
func (r *reader) need(want string) {
	if !r.takes(want) {
		r.fail(r.at)
	}
}

// read reads the whole text.
func (r *reader) read() {
	r.blanks()
	r.need("{")
	r.matchers()
	for r.more() {
		does := r.step()
		does()
	}
}

// more goes over the blanks ahead of a step, without which it can not stand; false at the end.
func (r *reader) more() bool {
	ahead := r.blanks()
	if r.rest() == "" {
		return false
	}
	if ahead == "" {
		r.fail(r.at)
	}
	return true
}

// matchers reads matchers behind {, and the } behind them.
func (r *reader) matchers() {
	r.blanks()
	if r.takes("}") {
		return
	}
	for more := true; more; {
		r.blanks()
		m := r.matcher(r.word())
		r.query.Match = append(r.query.Match, m)
		r.blanks()
		more = r.takes(",")
	}
	r.need("}")
}

// word reads a word.
func (r *reader) word() string {
	s := r.cut(scan.Word(r.rest()))
	if s == "" {
		r.fail(r.at)
	}
	return s
}

// matcher reads the matcher whose key was read.
func (r *reader) matcher(key string) api.Matcher {
	r.blanks()
	op, n, ok := scan.Operator(r.rest())
	r.cut(n)
	if !ok {
		r.fail(r.at)
	}
	return api.Matcher{Op: op, Key: key, Value: r.value()}
}

// value reads a text in quotes.
func (r *reader) value() string {
	r.blanks()
	n, ok := scan.Quoted(r.rest())
	s, _ := attr.Unquote(r.cut(n))
	if !ok {
		r.fail(r.at)
	}
	return s
}

// step reads the sign with which a step begins, and tells what the step does.
func (r *reader) step() func() {
	switch {
	case r.takes("|="):
		return r.has
	case r.takes("|"):
		return r.named
	}
	r.need("!")
	r.need("=")
	return r.hasNot
}

func (r *reader) has() {
	r.test(api.Matcher{Op: api.MHas, Value: r.value()})
}

func (r *reader) hasNot() {
	r.test(api.Matcher{Op: api.MNot, Value: r.value()})
}

func (r *reader) test(m api.Matcher) {
	r.query.Tests = append(r.query.Tests, m)
}

// named reads a step that begins with a word: a level, a limit, or the test of a key, which may be called so as well.
func (r *reader) named() {
	r.blanks()
	at := r.at
	word := r.word()
	r.blanks()
	_, n, _ := scan.Operator(r.rest())
	switch {
	case n == 0 && word == level:
		r.set(&r.query.Level, maxLevel, at)
	case n == 0 && word == limit:
		r.set(&r.query.Limit, MaxLimit, at)
	default:
		r.test(r.matcher(word))
	}
}

// set reads the number of a level or a limit, whose word stands at a place and may stand once.
func (r *reader) set(to *int, most, at int) {
	if *to != 0 {
		r.fail(at)
	}
	from := r.at
	digits := r.cut(scan.Digits(r.rest()))
	n, err := strconv.Atoi(digits)
	if err != nil || n > most || digits[0] == '0' {
		r.fail(from)
	}
	*to = n
}
