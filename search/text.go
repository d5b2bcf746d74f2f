package search

import (
	"strconv"
	"strings"

	"belfry/api"
	"belfry/attr"
)

const digits = "0123456789abcdef"

// Text tells hits as text, a line for each.
func Text(l []Hit) string {
	var s strings.Builder
	for _, h := range l {
		s.WriteString(h.Owner + " " + strconv.FormatInt(h.R.T, 10) + " " + ofKind(h.R) + attr.Text(h.R.Attrs) + "\n")
	}
	return s.String()
}

// ofKind tells what is told of a line, of a span, alone.
func ofKind(r api.Record) string {
	switch r.Kind {
	case api.KLine:
		return strconv.Itoa(r.Level) + " " + attr.Quote(r.Text) + " "
	case api.KSpan:
		return strconv.FormatInt(r.To, 10) + " " + attr.Quote(r.Name) + " " + hex(r.Id) + " "
	}
	return ""
}

func hex(id [8]byte) string {
	var out []byte
	for _, x := range id {
		out = append(out, digits[x>>4], digits[x&15])
	}
	return string(out)
}
