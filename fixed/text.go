package fixed

import (
	"strconv"
	"strings"

	"belfry/api"
)

// How many digits a text may have ahead of the point and behind it: thirteen hold every whole part up to Top's, six are the millionths.
const (
	wholeDigits = 13
	partDigits  = 6
)

// Text tells a number in decimal digits, with as few behind the point as it needs.
func Text(v int64) string {
	n := size(v)
	s := strconv.FormatUint(n/api.One, 10)
	if v < 0 {
		s = "-" + s
	}
	part := n % api.One
	if part == 0 {
		return s
	}
	// A million on top keeps the 0s ahead of the millionths; its own digit goes again.
	digits := strconv.FormatUint(api.One+part, 10)[1:]
	return s + "." + strings.TrimRight(digits, "0")
}

// Parse reads a number as Text tells it, also with 0s behind the millionths; ErrForm if it is not in this form, ErrArg if it is beyond Top.
func Parse(s string) (int64, api.Errno) {
	minus := strings.HasPrefix(s, "-")
	if minus {
		s = s[1:]
	}
	n, ok := parseSize(s)
	switch {
	case !ok:
		return 0, api.ErrForm
	case n > Top:
		return 0, api.ErrArg
	}
	return signed(n, minus), api.OK
}

// parseSize reads a number without a sign, in millionths; false if it is not in its form. What its form lets in is below 2^64.
func parseSize(s string) (uint64, bool) {
	whole, n := scanDigits(s)
	if n < 1 || n > wholeDigits || n > 1 && s[0] == '0' {
		return 0, false
	}
	whole *= api.One
	s = s[n:]
	if s == "" {
		return whole, true
	}
	if s[0] != '.' {
		return 0, false
	}
	part, n := scanDigits(s[1:])
	if n < 1 || n > partDigits || n+1 < len(s) {
		return 0, false
	}
	return whole + scalePart(part, n), true
}

// scanDigits reads the digits at the front of s: their number, and how many they are. Beyond nineteen the number wraps round; no form lets so many in.
func scanDigits(s string) (uint64, int) {
	var v uint64
	n := 0
scan:
	for n < len(s) {
		switch c := s[n]; {
		case c < '0', c > '9':
			break scan
		default:
			v = v*10 + uint64(c-'0')
			n++
		}
	}
	return v, n
}

// scalePart is the number of n digits behind the point, in millionths: each digit that is left out counts as a 0.
func scalePart(part uint64, n int) uint64 {
	switch n {
	case 1:
		part *= 10
		fallthrough
	case 2:
		part *= 10
		fallthrough
	case 3:
		part *= 10
		fallthrough
	case 4:
		part *= 10
		fallthrough
	case 5:
		part *= 10
	}
	return part
}
