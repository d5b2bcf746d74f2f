package metricq

import (
	"strconv"

	"belfry/api"
	"belfry/scan"
)

// spanDigits is how many digits a span may have.
const spanDigits = 9

// units are those of spans, in nanoseconds, the greatest first: each divides all those ahead of it.
var units = [...]struct {
	name string
	size int64
}{
	{"h", 3600 * 1000000000},
	{"m", 60 * 1000000000},
	{"s", 1000000000},
	{"ms", 1000000},
	{"us", 1000},
	{"ns", 1},
}

// Span tells nanoseconds as text, in the greatest unit that divides them.
func Span(n int64) (string, api.Errno) {
	if n < 1 || n > api.MaxTime {
		return "", api.ErrArg
	}
	for _, u := range units { // if the greatest one that divides n has too many digits, the others have more
		digits := strconv.FormatInt(n/u.size, 10)
		if n%u.size == 0 && len(digits) <= spanDigits {
			return digits + u.name, api.OK
		}
	}
	return "", api.ErrArg
}

// ParseSpan reads a span: its nanoseconds.
func ParseSpan(s string) (int64, api.Errno) {
	n := scan.Digits(s)
	if n < 1 || n > spanDigits || s[0] == '0' {
		return 0, api.ErrForm
	}
	count, _ := strconv.ParseInt(s[:n], 10, 64)
	for _, u := range units {
		switch {
		case u.name != s[n:]:
			continue
		case count > api.MaxTime/u.size: // the product may be too great for a number
			return 0, api.ErrArg
		}
		return count * u.size, api.OK
	}
	return 0, api.ErrForm
}
