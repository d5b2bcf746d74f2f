// Package scan tells how far a piece reaches from the beginning of a text: blanks, a word, digits, a matcher's operator, a text in quotes. It stands below the layers that read queries, rules and grants, so that these part their texts alike.
package scan

import (
	"strings"

	"belfry/api"
)

const digits = "0123456789"

// Blanks tells how many blanks there are.
func Blanks(s string) int {
	return len(s) - len(strings.TrimLeft(s, " \t"))
}

// Digits tells how many digits there are.
func Digits(s string) int {
	return len(s) - len(strings.TrimLeft(s, digits))
}

// Number tells how many digits and points there are, if a digit is the first.
func Number(s string) int {
	if Digits(s) == 0 {
		return 0
	}
	return len(s) - len(strings.TrimLeft(s, digits+"."))
}

// Word tells how many bytes a word has: letters, digits, _ and points, the first one a letter or _.
func Word(s string) int {
	n := 0
scan:
	for n < len(s) {
		switch x := s[n]; {
		case x >= 'a' && x <= 'z', x >= 'A' && x <= 'Z', x == '_':
			n++
		case n > 0 && (x >= '0' && x <= '9' || x == '.'):
			n++
		default:
			break scan
		}
	}
	return n
}

// Run tells how many bytes there are that may stand within a word, if the first is no point: a word, a number, or a number with letters behind it, as spans have them.
func Run(s string) int {
	n := Number(s)
	return n + Word(s[n:])
}

// Operator tells a matcher's operator, and how many bytes it has. If there is none, it tells how many bytes may begin one: a ! that stands alone.
func Operator(s string) (op, n int, ok bool) {
	switch {
	case strings.HasPrefix(s, "=~"):
		return api.MHas, 2, true
	case strings.HasPrefix(s, "="):
		return api.MEq, 1, true
	case strings.HasPrefix(s, "!="):
		return api.MNe, 2, true
	case strings.HasPrefix(s, "!~"):
		return api.MNot, 2, true
	case strings.HasPrefix(s, "!"):
		return 0, 1, false
	}
	return 0, 0, false
}

// Quoted tells how many bytes a text in quotes has, with these. If there is none, it tells how many bytes may begin one: behind them stands a byte that can not, or nothing.
func Quoted(s string) (int, bool) {
	if !strings.HasPrefix(s, `"`) {
		return 0, false
	}
	for n := 1; n < len(s); n++ {
		switch s[n] {
		case '"':
			return n + 1, true
		case '\n':
			return n, false
		case '\\':
			n++
			if n == len(s) || !escaped(s[n]) {
				return n, false
			}
		}
	}
	return len(s), false
}

// escaped tells whether a byte may stand behind a backslash.
func escaped(x byte) bool {
	return x == '"' || x == '\\' || x == 'n'
}
