package logq

import (
	"math/rand"
	"regexp"
	"slices"
	"strings"
	"testing"

	"belfry/api"
	"belfry/attr"
)

// Example 1 of the chapter.
func TestExample(t *testing.T) {
	s, written := `{env="prod"} |= "error" | level 9 | user!="ann" | limit 5`, `{env="prod"} | level 9 |= "error" | user!="ann" | limit 5`
	want := api.LogQuery{Match: []api.Matcher{ma(1, "env", "prod")}, Level: 9, Tests: []api.Matcher{has("error"), ma(2, "user", "ann")}, Limit: 5}
	for _, s := range []string{s, written} {
		if q, e, at := Parse(s); !Same(q, want) || e != api.OK || at != 0 {
			t.Errorf("Parse(%s) = %v, %d, %d", s, q, e, at)
		}
	}
	if s, e := Print(want); s != written || e != api.OK {
		t.Errorf("Print = %s, %d", s, e)
	}
	if q, e, at := Parse("{}"); !Same(q, api.LogQuery{}) || e != api.OK || at != 0 {
		t.Errorf("Parse({}) = %v, %d, %d", q, e, at)
	}
	checkPlaces(t, map[string]int{"": 0, "{} | level 0": 11, "{} |": 4})
}

func checkPlaces(t *testing.T, places map[string]int) {
	t.Helper()
	for s, want := range places {
		if q, e, at := Parse(s); e != api.ErrQuery || at != want || !Same(q, api.LogQuery{}) {
			t.Errorf("Parse(%q) = %v, %d, %d, want the place %d", s, q, e, at, want)
		}
	}
}

// P14.2: each step, with the blanks that may stand, and how it is written.
func TestSteps(t *testing.T) {
	match := []api.Matcher{ma(1, "a", "1"), ma(4, "b", "}")}
	for _, c := range []struct {
		s, written string
		want       api.LogQuery
	}{
		{" \t{\t } ", `{}`, api.LogQuery{}},
		{"{a=\"1\",b!~\"}\"}", `{a="1", b!~"}"}`, api.LogQuery{Match: match}},
		{"\t{ a = \"1\" ,\tb !~ \"}\" }\t\t", `{a="1", b!~"}"}`, api.LogQuery{Match: match}},
		{`{} |= "x"`, `{} |= "x"`, tests(has("x"))},
		{"{}\t|=\"x\"", `{} |= "x"`, tests(has("x"))},
		{"{} != \"x\"", `{} != "x"`, tests(not("x"))},
		{"{}  !=\t\"x\"  ", `{} != "x"`, tests(not("x"))},
		{`{} |= "\"\\\n| level 5"`, `{} |= "\"\\\n| level 5"`, tests(has("\"\\\n| level 5"))},
		{`{} | k="v"`, `{} | k="v"`, tests(ma(1, "k", "v"))},
		{`{} |k!=""`, `{} | k!=""`, tests(ma(2, "k", ""))},
		{"{} |\tk =~\t\"v\"", `{} | k=~"v"`, tests(ma(3, "k", "v"))},
		{`{} | a.B_9 !~ "v"`, `{} | a.B_9!~"v"`, tests(ma(4, "a.B_9", "v"))},
		{`{} | level 1`, `{} | level 1`, api.LogQuery{Level: 1}},
		{"{} |level\t 24 ", `{} | level 24`, api.LogQuery{Level: 24}},
		{`{} | limit 1`, `{} | limit 1`, api.LogQuery{Limit: 1}},
		{"{}\t|limit 1000\t", `{} | limit 1000`, api.LogQuery{Limit: 1000}},
		{`{} | limit 5 | level 9`, `{} | level 9 | limit 5`, api.LogQuery{Level: 9, Limit: 5}},
		{`{} | level="9"`, `{} | level="9"`, tests(ma(1, "level", "9"))},
		{`{} | level !~ "9"`, `{} | level!~"9"`, tests(ma(4, "level", "9"))},
		{`{} | limit!=""`, `{} | limit!=""`, tests(ma(2, "limit", ""))},
		{`{} | limit =~ "5" | limit 5 | limit="5"`, `{} | limit=~"5" | limit="5" | limit 5`, api.LogQuery{Tests: []api.Matcher{ma(3, "limit", "5"), ma(1, "limit", "5")}, Limit: 5}},
		{`{level="1"} | level 5 | level="5" != "5"`, `{level="1"} | level 5 | level="5" != "5"`, api.LogQuery{Match: []api.Matcher{ma(1, "level", "1")}, Level: 5, Tests: []api.Matcher{ma(1, "level", "5"), not("5")}}},
		{`{} | levels="9" | Level="9" | level.x="9"`, `{} | levels="9" | Level="9" | level.x="9"`, tests(ma(1, "levels", "9"), ma(1, "Level", "9"), ma(1, "level.x", "9"))},
		{`{} |= "a" != "a" |= "a" |= "a"`, `{} |= "a" != "a" |= "a" |= "a"`, tests(has("a"), not("a"), has("a"), has("a"))},
		{`{} |= "é	"`, `{} |= "é	"`, tests(has("é\t"))},
	} {
		if q, e, at := Parse(c.s); !Same(q, c.want) || e != api.OK || at != 0 {
			t.Errorf("Parse(%q) = %v, %d, %d, want %v", c.s, q, e, at, c.want)
		}
		if s, e := Print(c.want); s != c.written || e != api.OK {
			t.Errorf("%q is written %q, %d", c.s, s, e)
		}
	}
}

// P14.2: the first byte with which a text can not go on.
func TestPlaces(t *testing.T) {
	checkPlaces(t, map[string]int{
		" ": 1, "x": 0, "}": 0, "|": 0, `|= "x"`: 0, "{": 1, "{ ": 2, "{{": 1, "{,}": 1, "{a": 2, "{a}": 2, "{1": 1, `{"a"`: 1, "{a b": 3, "{a=": 3, "{a=1}": 3, "{a=x": 3, "{a!": 3, "{a!x": 3, `{a! ="1"}`: 3, "{a~": 2, "{a=~": 4, "{a= ~": 4, "{a==": 3, `{a="`: 4, `{a="1`: 5, `{a="\x`: 5, `{a="\`: 5, "{a=\"1\n": 5, `{a="1"`: 6, `{a="1" b`: 7, `{a="1",`: 7, `{a="1",}`: 7, `{a="1"|`: 6, "\n{}": 0,
		"{}x": 2, "{} x": 3, "{}{}": 2, "{}|": 2, `{}|= "x"`: 2, `{}!= "x"`: 2, "{}| level 5": 2, "{}\n": 2, "{} \n": 3, `{} "x"`: 3, `{} = "x"`: 3, "{} level 5": 3, "{} ,": 3, "{} {}": 3, "{} }": 3,
		"{} !": 4, "{} !x": 4, "{} ! =": 4, `{} !~ "x"`: 4, "{} !!": 4, "{} !=": 5, "{} != ": 6, "{} !=x": 5, `{} !=~ "x"`: 5, "{} != 5": 6, `{} != "`: 7, `{} != "x`: 8, `{} != "x" y`: 10, `{} != "x"y`: 9,
		"{} |x": 5, "{} | ": 5, "{} ||": 4, "{} | |": 5, `{} | = "x"`: 5, `{} | != "x"`: 5, "{} | 5": 5, `{} | "x"`: 5, "{} |\n": 4, "{} |=": 5, `{} |= `: 6, "{} |=x": 5, "{} |==": 5, `{} |=~ "x"`: 5, `{} |= x`: 6, `{} |= "x`: 8, `{} |= "\x"`: 8, "{} |= \"\n\"": 7, `{} |= "x"|= "y"`: 9, `{} |= "x"!= "y"`: 9, `{} |= "x", "y"`: 9, `{} |= "x" "y"`: 10, `{} |= "x"}`: 9,
		"{} | a": 6, "{} | a ": 7, "{} | a b": 7, "{} | a 5": 7, "{} | a-b": 6, "{} | a!": 7, "{} | a !x": 8, "{} | a=": 7, "{} | a=5": 7, "{} | a= ~": 8, "{} | a~": 6, `{} | a="x`: 9, `{} | a="x"|`: 10, `{} | a="x" b="y"`: 11, `{} | a="x", b="y"`: 10, `{} | a|= "x"`: 6,
		"{} | level": 10, "{} | level ": 11, "{} | level x": 11, "{} | level -1": 11, "{} | level +1": 11, "{} | level 00": 11, "{} | level 05": 11, "{} | level 25": 11, "{} | level 24x": 13, "{} | level 100": 11, "{} | level 99999999999999999999": 11, "{} | level 5x": 12, "{} | level 5.0": 12, "{} | level 5|": 12, "{} | level 5 x": 13, "{} | level 0 x": 11, `{} | level "5"`: 11, `{} | level"5"`: 10, "{} | level5": 11, "{} | level 5 5": 13, "{} | level !": 12, "{} | level !5": 12, "{} | level =5": 12, "{} | level |": 11, "{} | Level 5": 11, "{} | levels 5": 12, "{} | level\n5": 10,
		"{} | limit": 10, "{} | limit 0": 11, "{} | limit 1001": 11, "{} | limit 01": 11, "{} | limit 1000 0": 16, "{} | limit 10000": 11, "{} | limit x": 11, "{} | limit 5,": 12,
		"{} | level 5 | level 6": 15, "{} | level 5 | level 5": 15, "{} | level 5 |level 0": 14, "{} | level 5 | level x": 15, "{} | limit 5 | level 6 | limit 7": 25, `{} | limit 5 |= "x" | limit 5 $`: 22, "{} | level 5 | level=5": 21, "{} | level 5 $ | level 5": 13, "{} | level 5 | level !": 22, `{} | level="5" | level 0`: 23, "{} | level 5 | level": 15,
	})
}

// P14.2: Right's error of what a text says, and 0, behind all faults of its form.
func TestParseRight(t *testing.T) {
	nine := `{` + strings.Repeat(`a="1", `, 8) + `a="1"}`
	long := strings.Repeat("k", 65)
	value := `"` + strings.Repeat("v", 257) + `"`
	for _, c := range []struct {
		s string
		e api.Errno
	}{
		{nine, api.ErrFull}, {nine + ` |= ""`, api.ErrFull}, {`{` + long + `="1"} |= ""`, api.ErrKey}, {"{a=\"\xff\"} |= \"\"", api.ErrValue}, {`{a=` + value + `}`, api.ErrValue},
		{"{}" + strings.Repeat(` |= ""`, 9), api.ErrFull}, {"{}" + strings.Repeat(` | a=""`, 8), api.OK}, {"{}" + strings.Repeat(` | a=""`, 9), api.ErrFull},
		{`{} | ` + long + `="1" |= ""`, api.ErrKey}, {`{} | a=` + value, api.ErrValue}, {"{} | a=\"\xff\"", api.ErrValue}, {`{} |= ""`, api.ErrValue}, {`{} != ""`, api.ErrValue}, {`{} |= ` + value, api.ErrValue}, {"{} != \"\xff\"", api.ErrValue}, {`{} | a=""`, api.OK},
	} {
		q, e, at := Parse(c.s)
		if e != c.e || at != 0 || e != api.OK && !Same(q, api.LogQuery{}) {
			t.Errorf("Parse(%q) = %v, %d, %d, want %d", c.s, q, e, at, c.e)
		}
		if q, e, at := Parse(c.s + " $"); e != api.ErrQuery || at != len(c.s)+1 || !Same(q, api.LogQuery{}) {
			t.Errorf("Parse(%q) = %v, %d, %d", c.s+" $", q, e, at)
		}
	}
}

// P14.2: MaxLine bytes may be, one more is too long, whatever they are; what is written with more is Right's ErrSize.
func TestParseSize(t *testing.T) {
	if q, e, at := Parse("{}" + strings.Repeat(" ", api.MaxLine-2)); !Same(q, api.LogQuery{}) || e != api.OK || at != 0 {
		t.Errorf("Parse of MaxLine bytes = %v, %d, %d", q, e, at)
	}
	for _, s := range []string{"{}" + strings.Repeat(" ", api.MaxLine-1), strings.Repeat("$", api.MaxLine+1), strings.Repeat("{", 100000)} {
		if q, e, at := Parse(s); e != api.ErrSize || at != 0 || !Same(q, api.LogQuery{}) {
			t.Errorf("Parse of %d bytes = %v, %d, %d", len(s), q, e, at)
		}
	}
	checkPlaces(t, map[string]int{strings.Repeat(" ", api.MaxLine): api.MaxLine, "{}" + strings.Repeat(" ", api.MaxLine-3) + "$": api.MaxLine - 1})
	for _, c := range []struct {
		last int
		e    api.Errno
	}{{248, api.OK}, {249, api.ErrSize}} { // each step is written with a blank more
		s := "{}" + strings.Repeat(` |="`+strings.Repeat("v", 250)+`"`, 3) + ` |="` + strings.Repeat("v", c.last) + `"`
		if _, e, at := Parse(s); e != c.e || at != 0 || len(s) > api.MaxLine {
			t.Errorf("Parse of %d bytes = %d, %d", len(s), e, at)
		}
	}
}

// spread is a query's text with blanks wherever they may stand, and level and limit anywhere.
func spread(r *rand.Rand, q api.LogQuery) string {
	some := func() string { return []string{"", "", " ", "\t", "  "}[r.Intn(5)] }
	one := func() string { return []string{" ", "\t", " \t "}[r.Intn(3)] }
	ops := []string{"=", "!=", "=~", "!~"}
	s := some() + "{" + some()
	for i, m := range q.Match {
		if i > 0 {
			s += "," + some()
		}
		s += m.Key + some() + ops[m.Op-1] + some() + attr.Quote(m.Value) + some()
	}
	s += "}"
	var steps []string
	for _, m := range q.Tests {
		step := "|" + some() + m.Key + some() + ops[m.Op-1] + some() + attr.Quote(m.Value)
		if m.Key == "" {
			step = []string{"|=", "!="}[m.Op-3] + some() + attr.Quote(m.Value)
		}
		steps = append(steps, step)
	}
	if q.Level > 0 {
		steps = slices.Insert(steps, r.Intn(len(steps)+1), setting("level", q.Level)[1:])
	}
	if q.Limit > 0 {
		steps = slices.Insert(steps, r.Intn(len(steps)+1), "|limit"+one()+setting("limit", q.Limit)[9:])
	}
	for _, step := range steps {
		s += one() + step
	}
	return s + some()
}

// P14.4, P9: what is written is read as it was; blanks, and where level and limit stand, change nothing.
func TestAsItWas(t *testing.T) {
	r := rand.New(rand.NewSource(144))
	for range 20000 {
		q := anyQuery(r)
		s, e := Print(q)
		if e != api.OK {
			t.Fatalf("Print(%v) = %d", q, e)
		}
		for _, s := range []string{s, spread(r, q)} {
			if again, e, at := Parse(s); e != api.OK || at != 0 || !Same(again, q) {
				t.Fatalf("Parse(%q) = %v, %d, %d, want %v", s, again, e, at, q)
			}
		}
	}
}

// A second way to find the place of a fault: a text goes on as long as something can be put behind it that makes it a query.
const (
	sp  = `[ \t]*`
	qu  = `"(?:[^"\\\n]|\\["\\n])*"`
	one = `[a-zA-Z_][a-zA-Z0-9_.]*` + sp + `(?:[=!]~|!?=)` + sp + qu
)

var (
	whole  = regexp.MustCompile(`^` + sp + `\{` + sp + `(?:` + one + sp + `(?:,` + sp + one + sp + `)*)?\}(?:[ \t]+(?:(?:\|=|!=)` + sp + qu + `|\|` + sp + one + `|\|` + sp + `level[ \t]+(?:[1-9]|1[0-9]|2[0-4])|\|` + sp + `limit[ \t]+(?:[1-9][0-9]{0,2}|1000)))*` + sp + `$`)
	number = regexp.MustCompile(`\|[ \t]*(?:level|limit)[ \t]+[0-9]+$`)
	// What is called level or limit, and is no key: the others of these are passed over.
	called = regexp.MustCompile(qu + `|"(?:[^"\\\n]|\\["\\n])*\\?$|\|[ \t]*(?:level|limit)(?:[ \t]*[=!]|[a-zA-Z0-9_.])|\|[ \t]*(level|limit)`)
)

// canEnd are texts that end whatever has begun.
var canEnd = []string{"", "}", `"}`, `""}`, `=""}`, `a=""}`, `n"}`, "{}", `"`, `""`, `=""`, `a=""`, `n"`}

func goesOn(s string) bool {
	return slices.ContainsFunc(canEnd, func(end string) bool { return whole.MatchString(s + end) })
}

// modelPlace is the place of a text's fault; -1, if it has none.
func modelPlace(s string) int {
	place, above := 0, len(s)
	for place < above {
		if mid := (place + above + 1) / 2; goesOn(s[:mid]) {
			place = mid
		} else {
			above = mid - 1
		}
	}
	seen := map[string]bool{}
	for _, m := range called.FindAllStringSubmatchIndex(s[:place], -1) {
		if m[2] < 0 {
			continue
		}
		word := s[m[2]:m[3]]
		if seen[word] {
			return m[2]
		}
		seen[word] = true
	}
	if place == len(s) && whole.MatchString(s) {
		return -1
	}
	if place < len(s) && strings.Contains("0123456789", s[place:place+1]) && number.MatchString(s[:place]) {
		return len(strings.TrimRight(s[:place], "0123456789"))
	}
	return place
}

// mutated is a text with some bytes put in, taken out or turned into others.
func mutated(r *rand.Rand, s string) string {
	b := []byte(s)
	some := []string{"{", "}", "|", "|=", " |= ", "!=", "=", "!", "~", ",", "\"", "\\", "\n", "\xff", " ", "\t", "0", "1", "25", "9", "a", "level", " | level ", " | limit 5", " | level 0", "limit", "$", "\"x\"", " | level=\"\""}
	for range 1 + r.Intn(3) {
		i := r.Intn(len(b) + 1)
		x := []byte(some[r.Intn(len(some))])
		switch r.Intn(3) {
		case 0:
			b = slices.Insert(b, i, x...)
		case 1:
			b = slices.Delete(b, i, min(len(b), i+1+r.Intn(2)))
		case 2:
			b = slices.Replace(b, i, min(len(b), i+1), x...)
		}
	}
	return string(b)
}

// P14.2: texts that are nearly queries, against the second way to find the place.
func TestParseByModel(t *testing.T) {
	r := rand.New(rand.NewSource(142))
	right := 0
	for range 5000 {
		s := mutated(r, spread(r, anyQuery(r)))
		want := modelPlace(s)
		q, e, at := Parse(s)
		if (e == api.ErrQuery) != (want >= 0) || at != max(want, 0) {
			t.Fatalf("Parse(%q) = %d, %d, want the place %d", s, e, at, want)
		}
		if e != api.OK {
			continue
		}
		right++
		if p, e := Print(q); e != api.OK || modelPlace(p) != -1 {
			t.Fatalf("%q is written %q, %d", s, p, e)
		}
	}
	if right < 500 || right > 4500 {
		t.Errorf("%d texts are queries: the test tells little", right)
	}
}

// P1: texts of any bytes, against the second way, and queries of any fields.
func TestAnything(t *testing.T) {
	r := rand.New(rand.NewSource(141))
	signs := strings.Fields(`{ } | |= != = =~ "x" " level limit 5 0 25 a , ! \`)
	for i := range 4000 {
		b := make([]byte, r.Intn(20))
		r.Read(b)
		s := string(b)
		if i%4 > 0 {
			s = "{}"
			for range r.Intn(10) {
				s += signs[r.Intn(len(signs))] + "  "[:r.Intn(3)]
			}
		}
		want := modelPlace(s)
		if _, e, at := Parse(s); (e == api.ErrQuery) != (want >= 0) || at != max(want, 0) {
			t.Fatalf("Parse(%q) = %d, %d, want the place %d", s, e, at, want)
		}
		m := api.Matcher{Op: r.Intn(7) - 1, Key: s[:r.Intn(len(s)+1)], Value: s}
		q := api.LogQuery{Match: []api.Matcher{m}, Level: r.Intn(27) - 1, Tests: []api.Matcher{m, {Op: m.Op, Value: s}}, Limit: r.Intn(1003) - 1}
		p, e := Print(q)
		if Right(q) != e || (p == "") != (e != api.OK) {
			t.Fatalf("Print(%v) = %q, %d", q, p, e)
		}
		Fits(q, api.Record{Kind: api.KLine, Text: s})
	}
}

// Nothing that is handed in is changed, and no answers share memory.
func TestMemory(t *testing.T) {
	s := `{a="1", b="2"} |= "x" | c="3"`
	q, _, _ := Parse(s)
	as, _, _ := Parse(s)
	q.Match[0].Value, q.Tests[0].Value = "y", "y"
	_ = append(q.Match[:1], ma(1, "z", "z"))
	if again, _, _ := Parse(s); !Same(again, as) || Same(again, q) || q.Tests[1] != ma(1, "c", "3") {
		t.Error("an answer is seen in another one")
	}
	Right(as)
	Print(as)
	Fits(as, line(1, "x", `{a="1"}`))
	if again, _, _ := Parse(s); !Same(again, as) {
		t.Error("what is handed in is changed")
	}
}
