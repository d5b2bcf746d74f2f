// Package words reads the words of which the texts of rules and of grants are made, with one blank between. It stands below these two layers, which may not call each other, so that they read kinds and matchers alike.
package words

import (
	"strconv"
	"strings"
)

// blank is what stands between two words.
const blank = " "

// maxDigits is how many digits a number may have: as many as the greatest one that can be, 2^53.
const maxDigits = 16

var kinds = [...]string{"any", "metrics", "logs", "traces"}

// Kind tells the word of a kind of signals (0 any of them); none of a number that is no kind.
func Kind(kind int) string {
	if kind < 0 || kind >= len(kinds) {
		return ""
	}
	return kinds[kind]
}

// Line is a line that is read from its beginning on. What is read may be of a form that can stand, and yet of a value that can not: that is for the callers to tell.
type Line struct {
	rest string // what was not read yet
}

// Of tells a line of which nothing was read.
func Of(s string) *Line {
	return &Line{rest: s}
}

// Ended tells whether all of the line was read.
func (l *Line) Ended() bool {
	return l.rest == ""
}

// Take reads a piece, if it comes next.
func (l *Line) Take(want string) bool {
	rest, ok := strings.CutPrefix(l.rest, want)
	l.rest = rest
	return ok
}

// Word reads what there is up to a blank.
func (l *Line) Word(to *string) bool {
	return l.upTo(blank, to)
}

// upTo reads what there is up to one of some signs, or the end: a byte at least.
func (l *Line) upTo(signs string, to *string) bool {
	n := strings.IndexAny(l.rest, signs)
	if n < 0 {
		n = len(l.rest)
	}
	*to = l.cut(n)
	return n > 0
}

// cut reads n bytes.
func (l *Line) cut(n int) string {
	s := l.rest[:n]
	l.rest = l.rest[n:]
	return s
}

// Kind reads the word of a kind.
func (l *Line) Kind(to *int) bool {
	var word string
	l.Word(&word)
	for kind, is := range kinds {
		if word == is {
			*to = kind
			return true
		}
	}
	return false
}

// Number reads a number, written as it can be only.
func (l *Line) Number(to *int64) bool {
	var word string
	l.Word(&word)
	n, err := strconv.ParseInt(word, 10, 64)
	if err != nil || n < 0 || len(word) > maxDigits || strconv.FormatInt(n, 10) != word {
		return false
	}
	*to = n
	return true
}

// Keys reads keys, one at least, with a comma and a blank between two.
func (l *Line) Keys(to *[]string) bool {
	for {
		var key string
		if !l.upTo(", ", &key) {
			return false
		}
		*to = append(*to, key)
		if !l.Take(", ") {
			return true
		}
	}
}
