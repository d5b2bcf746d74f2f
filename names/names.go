// Package names tells what can be the name of a tenant, or of a user. It stands below the layers, so that those which may not call each other read names alike.
package names

import "belfry/api"

// Length tells how many bytes of a text, from its beginning on, are a name: as many as can be; 0, if it begins with none.
func Length(s string) int {
	n := 0
scan:
	for n < len(s) && n < api.MaxName {
		switch c := s[n]; {
		case c >= 'a' && c <= 'z':
		case n > 0 && (c == '-' || c >= '0' && c <= '9'):
		default:
			break scan
		}
		n++
	}
	return n
}

// Right tells whether a text can be a name.
func Right(s string) bool {
	return s != "" && Length(s) == len(s)
}
