package attr

import (
	"strings"

	"belfry/api"
)

// Text tells a list of attributes as a text of a set.
func Text(l []api.Attr) string {
	var items []string
	for key, value := range pairs(l) {
		items = append(items, key+"="+Quote(value))
	}
	return braced(items)
}

// MatchText tells matchers as text. An operator that is none has no text.
func MatchText(l []api.Matcher) string {
	var items []string
	for _, m := range l {
		items = append(items, m.Key+opText(m.Op)+Quote(m.Value))
	}
	return braced(items)
}

func braced(items []string) string {
	return "{" + strings.Join(items, ", ") + "}"
}

func opText(op int) string {
	switch op {
	case api.MEq:
		return "="
	case api.MNe:
		return "!="
	case api.MHas:
		return "=~"
	case api.MNot:
		return "!~"
	}
	return ""
}

// Quote tells a text in quotes.
func Quote(s string) string {
	out := make([]byte, 0, len(s)+2)
	out = append(out, '"')
	for i := range len(s) {
		switch x := s[i]; x {
		case '"', '\\':
			out = append(out, '\\', x)
		case '\n':
			out = append(out, '\\', 'n')
		default:
			out = append(out, x)
		}
	}
	return string(append(out, '"'))
}
