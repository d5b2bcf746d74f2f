// Package cursor reads a text from the left, byte by byte, and tells where it can not go on. It stands below the layers that read queries of lines and of spans, so that matchers, texts in quotes and numbers have the same places of faults in both.
package cursor

import (
	"strconv"
	"strings"

	"belfry/api"
	"belfry/attr"
	"belfry/scan"
)

// Cursor is a text, and how far it was read.
type Cursor struct {
	text string
	at   int // behind what was read; of a fault its place
}

// Of tells a text of which nothing was read.
func Of(s string) Cursor {
	return Cursor{text: s}
}

// At tells how far the text was read; behind a fault, its place.
func (c *Cursor) At() int {
	return c.at
}

// Fail throws that the text can not go on at a place. Who reads catches it, and asks for the place.
func (c *Cursor) Fail(at int) {
	c.at = at
	panic(api.ErrQuery)
}

// Rest tells what was not read yet.
func (c *Cursor) Rest() string {
	return c.text[c.at:]
}

// Cut reads n bytes.
func (c *Cursor) Cut(n int) string {
	s := c.Rest()[:n]
	c.at += n
	return s
}

// Blanks reads blanks, and tells how many there were.
func (c *Cursor) Blanks() int {
	return len(c.Cut(scan.Blanks(c.Rest())))
}

// Takes reads a sign, if it comes next.
func (c *Cursor) Takes(sign string) bool {
	if !strings.HasPrefix(c.Rest(), sign) {
		return false
	}
	c.Cut(len(sign))
	return true
}

// Need reads a sign that must come next.
func (c *Cursor) Need(sign string) {
	if !c.Takes(sign) {
		c.Fail(c.at)
	}
}

// Word reads a word that must come next.
func (c *Cursor) Word() string {
	s := c.Cut(scan.Word(c.Rest()))
	if s == "" {
		c.Fail(c.at)
	}
	return s
}

// Value reads blanks, and what stands in the quotes behind them.
func (c *Cursor) Value() string {
	c.Blanks()
	n, ok := scan.Quoted(c.Rest())
	s, _ := attr.Unquote(c.Cut(n))
	if !ok {
		c.Fail(c.at)
	}
	return s
}

// Matcher reads the rest of a matcher whose key was read.
func (c *Cursor) Matcher(key string) api.Matcher {
	c.Blanks()
	op, n, ok := scan.Operator(c.Rest())
	c.Cut(n)
	if !ok {
		c.Fail(c.at)
	}
	return api.Matcher{Op: op, Key: key, Value: c.Value()}
}

// Matchers reads a text of matchers, however many there are and whether they can be or not.
func (c *Cursor) Matchers() []api.Matcher {
	c.Need("{")
	c.Blanks()
	if c.Takes("}") {
		return nil
	}
	var l []api.Matcher
	for more := true; more; {
		c.Blanks()
		l = append(l, c.Matcher(c.Word()))
		c.Blanks()
		more = c.Takes(",")
	}
	c.Need("}")
	return l
}

// Number tells the number that the word says which was read last: digits without a 0 ahead, from 1 to most. If it says none, the fault is where that word begins.
func (c *Cursor) Number(word string, most int) int {
	n, _ := strconv.Atoi(word)
	if n < 1 || n > most || strconv.Itoa(n) != word {
		c.Fail(c.at - len(word))
	}
	return n
}
