package metricq

import (
	"strings"

	"belfry/api"
	"belfry/attr"
	"belfry/fixed"
	"belfry/scan"
)

// The kinds of tokens.
const (
	end = iota
	word
	number
	quoted
	sign
	operator // of a matcher
)

// signs are those of one byte. A matcher's operators are beside them.
const signs = operators + "(){}[],"

// token is a word, a number, a text in quotes, a sign, or the end of the text.
type token struct {
	kind  int
	at    int
	size  int
	text  string // of a word or a sign; what stands in the quotes
	value int64  // of a number
	op    int    // of a matcher's operator
}

func (t token) is(want string) bool {
	return t.kind == sign && t.text == want
}

// next tells the token that comes next, and leaves it there. It throws a fault of that token: what is wrong with the one ahead of it must have been told by then.
func (r *reader) next() token {
	r.at += scan.Blanks(r.rest())
	s := r.rest()
	t := token{at: r.at}
	switch {
	case s == "":
	case scan.Word(s) > 0:
		t.kind, t.size = word, scan.Word(s)
		t.text = s[:t.size]
	case scan.Number(s) > 0:
		r.number(&t, s)
	case s[0] == '"':
		r.quoted(&t, s)
	default:
		r.sign(&t, s)
	}
	return t
}

func (r *reader) number(t *token, s string) {
	t.kind, t.size = number, scan.Number(s)
	value, e := fixed.Parse(s[:t.size])
	if e != api.OK {
		r.fail(api.ErrToken, *t)
	}
	t.value = value
}

func (r *reader) quoted(t *token, s string) {
	n, ok := scan.Quoted(s)
	if !ok {
		r.fail(api.ErrToken, *t)
	}
	t.kind, t.size = quoted, n
	t.text, _ = attr.Unquote(s[:n])
}

func (r *reader) sign(t *token, s string) {
	if op, n, ok := scan.Operator(s); ok {
		t.kind, t.size, t.op = operator, n, op
		return
	}
	if !strings.Contains(signs, s[:1]) {
		r.fail(api.ErrToken, *t)
	}
	t.kind, t.size, t.text = sign, 1, s[:1]
}

// take reads the token that comes next.
func (r *reader) take() token {
	t := r.next()
	r.at += t.size
	return t
}

// takes reads a sign, if it comes next.
func (r *reader) takes(want string) bool {
	if !r.next().is(want) {
		return false
	}
	r.take()
	return true
}

// need reads a sign that must come next.
func (r *reader) need(want string) {
	if t := r.take(); !t.is(want) {
		r.fail(api.ErrQuery, t)
	}
}

// needKind reads a token of a kind that must come next.
func (r *reader) needKind(kind int) token {
	t := r.take()
	if t.kind != kind {
		r.fail(api.ErrQuery, t)
	}
	return t
}
