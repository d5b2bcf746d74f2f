package policy

import (
	"math/rand"
	"regexp"
	"slices"
	"strings"
	"testing"
	"unicode/utf8"

	"belfry/api"
	"belfry/attr"
)

const exampleText = "allow logs to globex where {env=\"prod\"} hide user\ndeny logs to * where {level=\"debug\"}\n"

var exampleRules = []api.Rule{
	{Kind: api.KLine, To: "globex", Scope: match(eq("env", "prod")), Hidden: []string{"user"}},
	{Deny: true, Kind: api.KLine, To: "*", Scope: match(eq("level", "debug"))},
}

// Example 1 of the chapter: the texts.
func TestExampleText(t *testing.T) {
	if l, e, at := Parse(exampleText); !Same(l, exampleRules) || e != api.OK || at != 0 {
		t.Errorf("Parse = %v, %d, %d", l, e, at)
	}
	if s, e, at := Print(exampleRules); s != exampleText || e != api.OK || at != 0 {
		t.Errorf("Print = %q, %d, %d", s, e, at)
	}
	if l, e, at := Parse("allow x to y"); l != nil || e != api.ErrRule || at != 0 {
		t.Errorf("Parse = %v, %d, %d", l, e, at)
	}
}

// P11.2: lines that say a rule, and what they say.
func TestParseLines(t *testing.T) {
	for s, want := range map[string]api.Rule{
		"allow any to *":                         {To: "*"},
		"deny any to *":                          {Deny: true, To: "*"},
		"allow metrics to a":                     {Kind: api.KPoint, To: "a"},
		"allow logs to where":                    {Kind: api.KLine, To: "where"},
		"deny traces to hide":                    {Deny: true, Kind: api.KSpan, To: "hide"},
		"allow any to a hide b":                  {To: "a", Hidden: []string{"b"}},
		"allow any to a hide b, a.c, _":          {To: "a", Hidden: []string{"b", "a.c", "_"}},
		"allow any to a hide hide":               {To: "a", Hidden: []string{"hide"}},
		`allow any to a where {b=""}`:            {To: "a", Scope: match(eq("b", ""))},
		`deny any to a where {b!="x"}`:           {Deny: true, To: "a", Scope: match(ne("b", "x"))},
		`deny any to a where {b=~"x"}`:           {Deny: true, To: "a", Scope: match(has("b", "x"))},
		`allow any to a where {b!~"x", a="y"}`:   {To: "a", Scope: match(not("b", "x"), eq("a", "y"))},
		`allow any to a where {b="x", b="x"}`:    {To: "a", Scope: match(eq("b", "x"), eq("b", "x"))},
		`allow any to a where {b="} hide c"}`:    {To: "a", Scope: match(eq("b", "} hide c"))},
		`allow any to a where {b="\"\\\n # é	"}`: {To: "a", Scope: match(eq("b", "\"\\\n # é\t"))},
		`allow any to a where {b="x"} hide b, c`: {To: "a", Scope: match(eq("b", "x")), Hidden: []string{"b", "c"}},
	} {
		for _, end := range []string{"", "\n", "\n\n", "\n#", "\n# no rule\n"} {
			if l, e, at := Parse(s + end); e != api.OK || at != 0 || !Same(l, []api.Rule{want}) {
				t.Errorf("Parse(%q) = %v, %d, %d", s+end, l, e, at)
			}
		}
		if p, e, at := Print([]api.Rule{want}); p != s+"\n" || e != api.OK || at != 0 {
			t.Errorf("Print(%v) = %q, %d, %d", want, p, e, at)
		}
	}
}

// P11.2: texts that say nothing.
func TestParseNothing(t *testing.T) {
	for _, s := range []string{"", "\n", "\n\n\n", "#", "#allow x", "# \n#\n\n##", strings.Repeat("\n", api.MaxText), "#" + strings.Repeat("\xff", api.MaxText-1)} {
		if l, e, at := Parse(s); len(l) != 0 || e != api.OK || at != 0 {
			t.Errorf("Parse of %d bytes = %v, %d, %d", len(s), l, e, at)
		}
	}
	if s, e, at := Print(nil); s != "" || e != api.OK || at != 0 {
		t.Errorf("Print(nil) = %q, %d, %d", s, e, at)
	}
}

// P11.2: lines that are no rule.
func TestParseNoRule(t *testing.T) {
	for _, s := range []string{
		" ", "\t", "\r", " #", "x", "allow", "allow ", "allow any", "allow any ", "allow any to", "allow any to ", "any to a", "allow to a", "allow a", "allow any a", "allow any to  a",
		"Allow any to a", "ALLOW any to a", "grant any to a", "allowany to a", "deny", "deny any", "deny any to ", "denyallow any to a", "deny allow any to a",
		" allow any to a", "allow  any to a", "allow any  to a", "allow any to a ", "allow\tany to a", "allow any to a b", "allow any to a, b", "allow any to a hide", "allow any to a where",
		"allow x to y", "allow Any to y", "allow log to y", "allow logs, traces to y", "allow 0 to y", "allow  to y",
		"allow any to a where ", "allow any to a where {}", "allow any to a where {} hide b", `allow any to a where b="x"`, `allow any to a where  {b="x"}`, `allow any to a where {b="x"} `, `allow any to a where{b="x"}`,
		`allow any to a where { b="x"}`, `allow any to a where {b="x" }`, `allow any to a where {b ="x"}`, `allow any to a where {b= "x"}`, `allow any to a where {b="x",c="y"}`, `allow any to a where {b="x",  c="y"}`,
		`allow any to a where {b="x"`, `allow any to a where {b="x}`, `allow any to a where {1="x"}`, `allow any to a where {b=x}`, `allow any to a where {b~"x"}`, `allow any to a where {b="\t"}`, `allow any to a where {b="x"}{b="x"}`, `allow any to a where {b="x"} where {b="x"}`,
		"allow any to a hide ", "allow any to a hide  b", "allow any to a hide b ", "allow any to a hide b,", "allow any to a hide b, ", "allow any to a hide b,c", "allow any to a hide b c", "allow any to a hide b,  c", "allow any to a hide b , c", "allow any to a hide , b", "allow any to a hide b hide c",
		`allow any to a hide b where {b="x"}`, `allow any to a where {b="x"} hide`, `allow any to a where {b="x"}hide c`, `allow any to a where {b="x"}  hide c`, `allow any to a where hide c`,
		"deny any to a hide b", `deny any to a where {b="x"} hide b`, "deny any to a hide", `deny any to a where {b="x", c="y"}`, `deny any to a where {b="x", b="x"}`, `deny any to a where {}`,
		"deny any to A hide b", // ahead of what Right says of it
		"allow any to a\x00\x00 b", "allow any to a\nallow any to", "allow any to a\r where",
	} {
		for ahead := range 3 {
			text := strings.Repeat("\n", ahead) + s
			want := ahead + strings.Count(s, "\n")
			if l, e, at := Parse(text); l != nil || e != api.ErrRule || at != want {
				t.Errorf("Parse(%q) = %v, %d, %d", text, l, e, at)
			}
		}
	}
}

// P11.2: lines that say a rule that can not be: Right's error, in its order.
func TestParseRight(t *testing.T) {
	nine := strings.Repeat(`b="x", `, 8) + `b="x"`
	long := strings.Repeat("k", 65)
	for _, c := range []struct {
		s string
		e api.Errno
	}{
		{"allow any to A", api.ErrIdent},
		{"allow any to **", api.ErrIdent},
		{"allow any to a\r", api.ErrIdent},
		{"allow any to a*", api.ErrIdent},
		{"allow any to 1", api.ErrIdent},
		{"allow any to " + strings.Repeat("a", 33), api.ErrIdent},
		{"allow any to A where {" + nine + "} hide 1", api.ErrIdent},
		{"deny any to A where {" + nine + "}", api.ErrIdent},
		{"allow any to a where {" + nine + "} hide 1", api.ErrFull},
		{"deny any to a where {" + nine + "}", api.ErrFull},
		{"allow any to a where {" + long + `="x"} hide 1`, api.ErrKey},
		{"deny any to a where {b=\"x\", " + long + `="x"}`, api.ErrKey},
		{"allow any to a where {b=\"\xff\"} hide c, c", api.ErrValue},
		{"deny any to a where {b=\"\xff\", b=\"x\"}", api.ErrValue},
		{`allow any to a where {b="` + strings.Repeat("v", 257) + `"}`, api.ErrValue},
		{"allow any to a hide " + strings.Join(manyKeys(17), ", "), api.ErrFull},
		{"allow any to a hide 1, " + strings.Join(manyKeys(16), ", "), api.ErrFull},
		{"allow any to a hide 1", api.ErrKey},
		{"allow any to a hide b-c", api.ErrKey},
		{"allow any to a hide b, b, " + long, api.ErrKey},
		{"allow any to a hide b, b", api.ErrTwice},
		{"allow any to a hide b, c, b", api.ErrTwice},
	} {
		for _, text := range []string{c.s, "\n#\nallow any to *\n" + c.s + "\nx"} {
			want := strings.Count(text[:strings.Index(text, c.s)], "\n")
			if l, e, at := Parse(text); l != nil || e != c.e || at != want {
				t.Errorf("Parse(%q) = %v, %d, %d, want %d, %d", text, l, e, at, c.e, want)
			}
		}
	}
}

// P11.2: the first line at fault is told, whichever fault it has.
func TestParseFirstFault(t *testing.T) {
	for _, c := range []struct {
		s  string
		e  api.Errno
		at int
	}{
		{"allow any to A\nx\n", api.ErrIdent, 0},
		{"x\nallow any to A\n", api.ErrRule, 0},
		{"allow any to a\nx\nallow any to A\n", api.ErrRule, 1},
		{"#\n\nallow any to a\n\nallow any to a hide b, b\nx", api.ErrTwice, 4},
	} {
		if l, e, at := Parse(c.s); l != nil || e != c.e || at != c.at {
			t.Errorf("Parse(%q) = %v, %d, %d", c.s, l, e, at)
		}
	}
}

// P11.2: MaxRules may be; the line of one more is told, ahead of its own fault, but behind the faults of lines ahead of it.
func TestParseFull(t *testing.T) {
	most := strings.Repeat("allow any to *\n#\n\n", api.MaxRules)
	if l, e, at := Parse(most + "#\n\n"); len(l) != 32 || e != api.OK || at != 0 {
		t.Errorf("Parse of 32 rules = %d, %d, %d", len(l), e, at)
	}
	for _, line := range []string{"deny any to *", "x", " ", "allow any to A", "deny any to *\nx"} {
		if l, e, at := Parse(most + "#\n" + line); l != nil || e != api.ErrFull || at != 97 {
			t.Errorf("Parse of 32 rules and %q = %v, %d, %d", line, l, e, at)
		}
	}
	if l, e, at := Parse("\nx\n" + most + "x"); l != nil || e != api.ErrRule || at != 1 {
		t.Errorf("Parse of a fault ahead of 33 rules = %v, %d, %d", l, e, at)
	}
	if l, e, at := Parse(strings.Replace(most, "*", "A", 1) + "x"); l != nil || e != api.ErrIdent || at != 0 {
		t.Errorf("Parse of 32 rules, the first at fault = %v, %d, %d", l, e, at)
	}
}

// P11.2: MaxText bytes may be, one more is too long, whatever they are.
func TestParseSize(t *testing.T) {
	most := "allow any to *\n#" + strings.Repeat("x", api.MaxText-16)
	if l, e, at := Parse(most); len(l) != 1 || e != api.OK || at != 0 {
		t.Errorf("Parse of MaxText bytes = %v, %d, %d", l, e, at)
	}
	for _, s := range []string{most + "x", "x\n" + most, strings.Repeat("\n", api.MaxText+1), strings.Repeat("allow any to *\n", 10000)} {
		if l, e, at := Parse(s); l != nil || e != api.ErrSize || at != 0 {
			t.Errorf("Parse of %d bytes = %v, %d, %d", len(s), l, e, at)
		}
	}
}

// P11.2: Print's errors: how many rules there are, then the first that can not be.
func TestPrintErrors(t *testing.T) {
	most := slices.Repeat([]api.Rule{{To: "*"}}, api.MaxRules)
	if s, e, at := Print(most); s != strings.Repeat("allow any to *\n", 32) || e != api.OK || at != 0 {
		t.Errorf("Print of 32 rules = %q, %d, %d", s, e, at)
	}
	for _, r := range []api.Rule{{To: "*"}, {}} {
		if s, e, at := Print(append(slices.Clone(most), r)); s != "" || e != api.ErrFull || at != 0 {
			t.Errorf("Print of 33 rules = %q, %d, %d", s, e, at)
		}
	}
	for _, c := range []struct {
		r api.Rule
		e api.Errno
	}{
		{api.Rule{Kind: 4, To: "*"}, api.ErrArg},
		{api.Rule{}, api.ErrIdent},
		{api.Rule{To: "*", Scope: match(api.Matcher{})}, api.ErrOp},
		{api.Rule{Deny: true, To: "*", Hidden: []string{"a"}}, api.ErrRule},
		{api.Rule{To: "*", Hidden: []string{"a", "a"}}, api.ErrTwice},
	} {
		l := slices.Clone(most)
		l[5], l[6] = c.r, api.Rule{Kind: 9}
		if s, e, at := Print(l); s != "" || e != c.e || at != 5 {
			t.Errorf("Print of %v = %q, %d, %d", c.r, s, e, at)
		}
	}
}

// Print writes what is longer than Parse reads: no sentence names an error for it.
func TestPrintLong(t *testing.T) {
	r := api.Rule{To: "*", Scope: slices.Repeat(match(eq("a", strings.Repeat("\"", 256))), 8)}
	s, e, at := Print(slices.Repeat([]api.Rule{r}, api.MaxRules))
	if len(s) <= api.MaxText || e != api.OK || at != 0 {
		t.Errorf("Print = %d bytes, %d, %d", len(s), e, at)
	}
	if l, e, at := Parse(s); l != nil || e != api.ErrSize || at != 0 {
		t.Errorf("Parse = %v, %d, %d", l, e, at)
	}
}

// anyRule is a rule of few names, keys and values; most can be.
func anyRule(r *rand.Rand) api.Rule {
	pick := func(l ...string) string { return l[r.Intn(len(l))] }
	rule := api.Rule{Deny: r.Intn(3) == 0, Kind: r.Intn(4), To: pick("*", "a", "b", "c-1", "where")}
	for range r.Intn(3) {
		rule.Scope = append(rule.Scope, api.Matcher{Op: 1 + r.Intn(4), Key: pick("a", "b", "c.d"), Value: pick("", "1", "2", "12", "x y", "\"", "\\\n", "} hide c", "é")})
	}
	for range r.Intn(3) {
		rule.Hidden = append(rule.Hidden, pick("a", "b", "c.d", "e"))
	}
	if rule.Deny && r.Intn(8) > 0 {
		rule.Scope, rule.Hidden = rule.Scope[:min(1, len(rule.Scope))], nil
	}
	return rule
}

// anyRules are at most n rules that can be.
func anyRules(r *rand.Rand, n int) []api.Rule {
	var out []api.Rule
	for range r.Intn(n + 1) {
		if rule := anyRule(r); Right(rule) == api.OK {
			out = append(out, rule)
		}
	}
	return out
}

// P11.5, P9: what is written is read as it was, and is written so again; nothing that is handed in is changed or shared.
func TestAsItWas(t *testing.T) {
	r := rand.New(rand.NewSource(115))
	for range 5000 {
		l := anyRules(r, 6)
		as := copyRules(l)
		s, e, at := Print(l)
		if e != api.OK || at != 0 || strings.Count(s, "\n") != len(l) {
			t.Fatalf("Print(%v) = %q, %d, %d", l, s, e, at)
		}
		got, e, at := Parse(s)
		if e != api.OK || at != 0 || !Same(got, l) || !Same(l, as) {
			t.Fatalf("Parse(%q) = %v, %d, %d", s, got, e, at)
		}
		if again, _, _ := Print(got); again != s {
			t.Fatalf("%q is written as %q", s, again)
		}
	}
}

const item = `[a-zA-Z_][a-zA-Z0-9_.]*(?:=|!=|=~|!~)"(?:[^"\\\n]|\\["\\n])*"`

var (
	lineForm = regexp.MustCompile(`(?s)^(allow|deny) (any|metrics|logs|traces) to ([^ ]+)(?: where \{(` + item + `(?:, ` + item + `)*)\})?(?: hide ([^ ,]+(?:, [^ ,]+)*))?$`)
	itemForm = regexp.MustCompile(`(?s)([a-zA-Z_][a-zA-Z0-9_.]*)(=~|=|!=|!~)("(?:[^"\\\n]|\\["\\n])*")`)
	nameForm = regexp.MustCompile(`^[a-z][a-z0-9-]{0,31}$`)
	keyForm  = regexp.MustCompile(`^[a-zA-Z_][a-zA-Z0-9_.]{0,63}$`)
)

// modelLine reads a line by the chapter's words.
func modelLine(s string) (api.Rule, api.Errno) {
	p := lineForm.FindStringSubmatch(s)
	if p == nil || p[1] == "deny" && p[5] != "" {
		return api.Rule{}, api.ErrRule
	}
	r := api.Rule{Deny: p[1] == "deny", Kind: slices.Index([]string{"any", "metrics", "logs", "traces"}, p[2]), To: p[3]}
	for _, m := range itemForm.FindAllStringSubmatch(p[4], -1) {
		value, _ := attr.Unquote(m[3])
		r.Scope = append(r.Scope, api.Matcher{Op: 1 + slices.Index([]string{"=", "!=", "=~", "!~"}, m[2]), Key: m[1], Value: value})
	}
	if p[5] != "" {
		r.Hidden = strings.Split(p[5], ", ")
	}
	return r, modelRight(r)
}

// modelRight is Right of a rule that stands in a line.
func modelRight(r api.Rule) api.Errno {
	if r.To != "*" && !nameForm.MatchString(r.To) {
		return api.ErrIdent
	}
	if len(r.Scope) > 8 {
		return api.ErrFull
	}
	for _, m := range r.Scope {
		if !keyForm.MatchString(m.Key) {
			return api.ErrKey
		}
		if len(m.Value) > 256 || !utf8.ValidString(m.Value) {
			return api.ErrValue
		}
	}
	if r.Deny && (len(r.Scope) > 1 || r.Hidden != nil) {
		return api.ErrRule
	}
	if len(r.Hidden) > 16 {
		return api.ErrFull
	}
	seen := map[string]int{}
	for _, k := range r.Hidden {
		if !keyForm.MatchString(k) {
			return api.ErrKey
		}
		seen[k]++
	}
	if len(seen) < len(r.Hidden) {
		return api.ErrTwice
	}
	return api.OK
}

// modelParse reads a policy by the chapter's words.
func modelParse(s string) ([]api.Rule, api.Errno, int) {
	var out []api.Rule
	for at := 0; s != ""; at++ {
		line, rest, _ := strings.Cut(s, "\n")
		s = rest
		if line == "" || line[0] == '#' {
			continue
		}
		if len(out) == 32 {
			return nil, api.ErrFull, at
		}
		r, e := modelLine(line)
		if e != api.OK {
			return nil, e, at
		}
		out = append(out, r)
	}
	return out, api.OK, 0
}

// mutated is a text with some pieces put in, taken out, or put in the place of others.
func mutated(r *rand.Rand, s string) string {
	pieces := []string{" ", ",", ", ", "\n", "#", "\"", "\\", "{", "}", "=", "!", "~", "a", "1", "*", "A", "\xff", "\t", "deny ", "allow ", " hide b", ` where {a="1"}`, "any", "logs", " to ", "\n\n", "-", ".", `, a="1"`, ", a"}
	for range r.Intn(3) {
		from := r.Intn(len(s) + 1)
		to := min(len(s), from+r.Intn(3)*r.Intn(3))
		piece := ""
		if r.Intn(4) > 0 {
			piece = pieces[r.Intn(len(pieces))]
		}
		s = s[:from] + piece + s[to:]
	}
	return s
}

// P11.2: texts of all kinds, against the chapter's words.
func TestParseByModel(t *testing.T) {
	r := rand.New(rand.NewSource(112))
	seen := map[api.Errno]int{}
	for range 40000 {
		s := ""
		for range r.Intn(3) {
			s += line(anyRule(r)) + "\n"
		}
		s = mutated(r, s)
		want, we, wat := modelParse(s)
		got, e, at := Parse(s)
		if e != we || at != wat || !Same(got, want) {
			t.Fatalf("Parse(%q) = %v, %d, %d, want %v, %d, %d", s, got, e, at, want, we, wat)
		}
		seen[e]++
	}
	for _, e := range []api.Errno{api.OK, api.ErrRule, api.ErrIdent, api.ErrKey, api.ErrValue, api.ErrTwice} {
		if seen[e] < 20 {
			t.Errorf("the error %d came %d times only", e, seen[e])
		}
	}
}

// P1: bytes of any kind.
func TestParseAnyBytes(t *testing.T) {
	r := rand.New(rand.NewSource(1))
	for range 20000 {
		b := make([]byte, r.Intn(30))
		r.Read(b)
		for _, s := range []string{string(b), "allow any to a" + string(b), "allow any to a where {" + string(b), `allow any to a where {a="` + string(b) + `"}`, "allow any to a hide " + string(b)} {
			want, we, wat := modelParse(s)
			if got, e, at := Parse(s); e != we || at != wat || !Same(got, want) {
				t.Fatalf("Parse(%q) = %v, %d, %d, want %v, %d, %d", s, got, e, at, want, we, wat)
			}
		}
	}
}
