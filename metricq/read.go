package metricq

import (
	"slices"
	"strings"

	"belfry/api"
	"belfry/attr"
	"belfry/scan"
)

// by is the word ahead of an aggregate's keys.
const by = "by"

// reader is a text that is read from the left, and its nodes so far.
type reader struct {
	text  string
	at    int       // how far it was read; of a fault its place
	why   api.Errno // of a fault
	open  int       // how many parentheses, and - ahead of one, have not ended
	nodes []api.Node
}

// fail throws what is wrong with a token. Parse catches it.
func (r *reader) fail(why api.Errno, t token) {
	r.why, r.at = why, t.at
	panic(why)
}

func (r *reader) rest() string {
	return r.text[r.at:]
}

// add puts a node behind the others, and tells its number.
func (r *reader) add(n api.Node) int {
	r.nodes = append(r.nodes, n)
	return len(r.nodes) - 1
}

// query reads the whole text.
func (r *reader) query() {
	r.sum()
	r.needKind(end)
}

func (r *reader) sum() int {
	return r.chain("+-", r.product)
}

func (r *reader) product() int {
	return r.chain("*/", r.operand)
}

// chain reads parts with signs between that bind alike, to the left.
func (r *reader) chain(alike string, part func() int) int {
	a := part()
	for {
		t := r.next()
		if t.kind != sign || !strings.Contains(alike, t.text) {
			return a
		}
		r.take()
		b := part()
		a = r.add(api.Node{Kind: api.NBinary, Op: api.OAdd + strings.Index(operators, t.text), A: a, B: b})
	}
}

// operand reads what may stand on either side of a sign.
func (r *reader) operand() int {
	does := r.deed(r.next())
	return does()
}

// deed tells what a token does with which an operand begins.
func (r *reader) deed(t token) func() int {
	switch {
	case t.kind == number:
		return r.constant
	case t.kind == quoted:
		return r.selection
	case t.kind == word:
		return r.wordDeed(t.text)
	case t.is("("):
		return r.parentheses
	case t.is("-"):
		return r.negation
	}
	return r.stray
}

func (r *reader) wordDeed(s string) func() int {
	switch meaning(s) {
	case api.NAgg:
		return r.aggregate
	case api.NCall:
		return r.call
	case api.NSelect:
		return r.selection
	}
	return r.stray
}

// meaning tells the kind of the node that a word makes: one that selects, if it can be a name. The word by makes none.
func meaning(s string) int {
	switch s {
	case "sum", "min", "max", "avg", "count":
		return api.NAgg
	case "rate", "delta", "last":
		return api.NCall
	case by:
		return 0
	}
	return api.NSelect
}

// stray is what a token does that can not stand.
func (r *reader) stray() int {
	r.fail(api.ErrQuery, r.next())
	return 0
}

func (r *reader) constant() int {
	return r.add(api.Node{Kind: api.NNumber, V: r.take().value})
}

func (r *reader) selection() int {
	return r.add(r.selector())
}

func (r *reader) parentheses() int {
	a := r.within(r.sum)
	return r.add(api.Node{Kind: api.NParen, A: a})
}

func (r *reader) negation() int {
	r.enter("-")
	a := r.operand()
	r.open--
	return r.add(api.Node{Kind: api.NNeg, A: a})
}

// enter reads a sign that opens something; within MaxNest others none may.
func (r *reader) enter(want string) {
	t := r.next()
	r.need(want)
	if r.open == api.MaxNest {
		r.fail(api.ErrDeep, t)
	}
	r.open++
}

// leave reads the sign that ends what ( has opened.
func (r *reader) leave() {
	r.need(")")
	r.open--
}

// within reads a part in parentheses.
func (r *reader) within(part func() int) int {
	r.enter("(")
	a := part()
	r.leave()
	return a
}

func (r *reader) aggregate() int {
	n := api.Node{Kind: api.NAgg, Name: r.take().text}
	if t := r.next(); t.kind == word && t.text == by {
		r.take()
		r.enter("(")
		n.By = r.keys()
		r.leave()
	}
	n.A = r.within(r.sum)
	return r.add(n)
}

func (r *reader) call() int {
	n := api.Node{Kind: api.NCall, Name: r.take().text}
	n.A = r.within(r.ranged)
	return r.add(n)
}

// ranged reads what selects the points of a span.
func (r *reader) ranged() int {
	n := r.selector()
	r.need("[")
	n.Range = r.span()
	r.need("]")
	return r.add(n)
}

// span reads a span. It may have letters where a number has none, so it is no token of its own.
func (r *reader) span() int64 {
	r.at += scan.Blanks(r.rest())
	s := r.rest()
	if scan.Digits(s) == 0 {
		r.stray()
	}
	size := scan.Run(s)
	span, e := ParseSpan(s[:size])
	if e != api.OK {
		r.fail(api.ErrToken, token{at: r.at})
	}
	r.at += size
	return span
}

func (r *reader) selector() api.Node {
	n := api.Node{Kind: api.NSelect, Name: r.name()}
	if r.takes("{") {
		n.Match = r.matchers()
	}
	return n
}

func (r *reader) name() string {
	t := r.take()
	switch {
	case t.kind == quoted && !attr.Value(t.text):
		r.fail(api.ErrToken, t)
	case t.kind != quoted && (t.kind != word || meaning(t.text) != api.NSelect):
		r.fail(api.ErrQuery, t)
	}
	return t.text
}

// matchers reads matchers behind {, and the } behind them.
func (r *reader) matchers() []api.Matcher {
	var l []api.Matcher
	if r.takes("}") {
		return l
	}
	for {
		l = append(l, r.matcher(len(l) < api.MaxMatch))
		if !r.takes(",") {
			r.need("}")
			return l
		}
	}
}

// matcher reads a matcher, if there is room for one more.
func (r *reader) matcher(room bool) api.Matcher {
	m := api.Matcher{Key: r.key(room), Op: r.needKind(operator).op}
	t := r.needKind(quoted)
	m.Value = t.text
	if attr.RightMatch([]api.Matcher{m}) != api.OK {
		r.fail(api.ErrToken, t)
	}
	return m
}

// key reads a key, if there is room for one more.
func (r *reader) key(room bool) string {
	t := r.needKind(word)
	if !room || !attr.Key(t.text) {
		r.fail(api.ErrToken, t)
	}
	return t.text
}

// keys reads keys, one at least, none twice.
func (r *reader) keys() []string {
	var l []string
	for {
		t := r.next()
		key := r.key(len(l) < api.MaxAttrs)
		if slices.Contains(l, key) {
			r.fail(api.ErrToken, t)
		}
		l = append(l, key)
		if !r.takes(",") {
			return l
		}
	}
}
