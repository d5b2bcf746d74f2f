package policy

import (
	"strings"

	"belfry/api"
	"belfry/attr"
	"belfry/words"
)

// The words of a rule, with the blanks about them.
const (
	allow = "allow "
	deny  = "deny "
	to    = " to "
	where = " where "
	hide  = " hide "
)

const (
	lineEnd = "\n"
	remark  = "#"
)

// Parse reads a policy's rules. Beside an error stands the number of the line at fault.
func Parse(s string) ([]api.Rule, api.Errno, int) {
	if len(s) > api.MaxText {
		return nil, api.ErrSize, 0
	}
	var rules []api.Rule
	says := func(line string) api.Errno {
		if len(rules) == api.MaxRules {
			return api.ErrFull
		}
		r, e := rule(line)
		if e == api.OK {
			rules = append(rules, r)
		}
		return e
	}
	for i, line := range strings.Split(s, lineEnd) {
		if line == "" || strings.HasPrefix(line, remark) {
			continue
		}
		if e := says(line); e != api.OK {
			return nil, e, i
		}
	}
	return rules, api.OK, 0
}

// rule tells the rule that a line says, if it can be.
func rule(line string) (api.Rule, api.Errno) {
	r, ok := read(line)
	if !ok {
		return api.Rule{}, api.ErrRule
	}
	return r, Right(r)
}

// read reads the rule that a line says, whether it can be or not, if the line is written as a rule.
func read(line string) (api.Rule, bool) {
	l := words.Of(line)
	r := api.Rule{Deny: l.Take(deny)}
	ok := (r.Deny || l.Take(allow)) && l.Kind(&r.Kind) && l.Take(to) && l.Word(&r.To)
	if ok && l.Take(where) {
		ok = l.Matchers(&r.Scope)
	}
	if ok && !r.Deny && l.Take(hide) {
		ok = l.Keys(&r.Hidden)
	}
	return r, ok && l.Ended()
}

// Print tells rules as a policy's text. Beside an error stands the number of the rule at fault.
func Print(l []api.Rule) (string, api.Errno, int) {
	if len(l) > api.MaxRules {
		return "", api.ErrFull, 0
	}
	var text strings.Builder
	for i, r := range l {
		if e := Right(r); e != api.OK {
			return "", e, i
		}
		text.WriteString(line(r) + lineEnd)
	}
	return text.String(), api.OK, 0
}

// line tells the text of a rule that can be.
func line(r api.Rule) string {
	s := allow
	if r.Deny {
		s = deny
	}
	s += Kind(r.Kind) + to + r.To
	if len(r.Scope) > 0 {
		s += where + attr.MatchText(r.Scope)
	}
	if len(r.Hidden) > 0 {
		s += hide + strings.Join(r.Hidden, ", ")
	}
	return s
}
