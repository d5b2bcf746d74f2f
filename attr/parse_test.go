package attr

import (
	"math/rand"
	"slices"
	"strconv"
	"strings"
	"testing"

	"belfry/api"
)

// The states of a text that is read byte by byte: a second way to find the first byte that can not stand.
const (
	ahead   = iota // of {
	opened         // behind {
	inKey          // behind a byte of a key
	withKey        // behind a key and blanks
	banged         // behind !
	equal          // behind =, which ~ may follow
	asked          // behind an operator
	within         // in quotes
	slashed        // behind a backslash
	given          // behind a value
	parted         // behind a comma
	closed         // behind }
	none           // that byte can not stand
)

func modelStep(state int, x byte, match bool) int {
	blank := x == ' ' || x == '\t'
	first := x >= 'a' && x <= 'z' || x >= 'A' && x <= 'Z' || x == '_'
	switch {
	case state == within && x == '"':
		return given
	case state == within && x == '\\':
		return slashed
	case state == within && x != '\n':
		return within
	case state == slashed && (x == '"' || x == '\\' || x == 'n'):
		return within
	case state == within || state == slashed:
		return none
	case state == ahead && x == '{':
		return opened
	case (state == opened || state == given) && x == '}':
		return closed
	case state == given && x == ',':
		return parted
	case (state == opened || state == parted) && first:
		return inKey
	case state == inKey && (first || x == '.' || x >= '0' && x <= '9'):
		return inKey
	case (state == inKey || state == withKey) && x == '=':
		return equal
	case (state == inKey || state == withKey) && x == '!' && match:
		return banged
	case state == banged && (x == '=' || x == '~'), state == equal && x == '~' && match:
		return asked
	case (state == equal || state == asked) && x == '"':
		return within
	case blank && state == inKey:
		return withKey
	case blank && state == equal:
		return asked
	case blank && state != banged:
		return state
	}
	return none
}

// modelPlace is the place of the first byte that can not stand; -1, if the text is right.
func modelPlace(s string, match bool) int {
	state := ahead
	for i := range len(s) {
		was := state
		state = modelStep(state, s[i], match)
		if state != none {
			continue
		}
		rest := s[i:]
		loneBang := rest[0] == '!' && !strings.HasPrefix(rest, "!=") && !strings.HasPrefix(rest, "!~")
		if loneBang && (was == inKey || was == withKey) {
			return i + 1
		}
		return i
	}
	if state != closed {
		return len(s)
	}
	return -1
}

// P4.3, P4.4: texts with blanks wherever they may stand.
func TestParseRight(t *testing.T) {
	for s, want := range map[string]string{
		`{}`:                                    `{}`,
		" \t{\t } ":                             `{}`,
		`{a="1"}`:                               `{a="1"}`,
		`{ a = "x\"y" }`:                        `{a="x\"y"}`,
		"\t{\ta\t=\t\"1\"\t,\tb\t=\t\"2\"\t}\t": `{a="1", b="2"}`,
		`{b="2",a="1"}`:                         `{a="1", b="2"}`,
		`  {b = "2"  ,  a  =  "1"}  `:           `{a="1", b="2"}`,
		`{a="{}, =!~ \\ \n é"}`:                 `{a="{}, =!~ \\ \n é"}`,
		`{_.9="1",Z="z"}`:                       `{Z="z", _.9="1"}`,
		"{a=\" \t\"}":                           "{a=\" \t\"}",
		`{` + strings.Repeat("k", 64) + `="1"}`: `{` + strings.Repeat("k", 64) + `="1"}`,
		`{a="` + strings.Repeat("\\n", 256) + `"}`: `{a="` + strings.Repeat("\\n", 256) + `"}`,
	} {
		l, e, place := Parse(s)
		if e != api.OK || place != 0 || Text(l) != want {
			t.Errorf("Parse(%q) = %q, %d, %d", s, l, e, place)
		}
	}
	for s, want := range map[string][]api.Matcher{
		`{}`:             nil,
		" \t{\t } ":      nil,
		`{a="1"}`:        {ma(1, "a", "1")},
		`{a=~"",z!="1"}`: {ma(3, "a", ""), ma(2, "z", "1")},
		"\t{ b !~ \"\\\"\" ,\ta\t=~\t\"\\\\\" , b != \"\\n\" , b = \"x\" , b=\"x\" } ": {ma(4, "b", "\""), ma(3, "a", "\\"), ma(2, "b", "\n"), ma(1, "b", "x"), ma(1, "b", "x")},
	} {
		l, e, place := ParseMatch(s)
		if e != api.OK || place != 0 || !slices.Equal(l, want) {
			t.Errorf("ParseMatch(%q) = %+v, %d, %d", s, l, e, place)
		}
	}
}

// P4.3, P4.4: the first byte that can not stand, in both texts.
func TestParsePlaces(t *testing.T) {
	for _, c := range []struct {
		s   string
		set int
		of  int // of matchers
	}{
		{``, 0, 0},
		{` `, 1, 1},
		{`a`, 0, 0},
		{`}`, 0, 0},
		{`!`, 0, 0},
		{`{`, 1, 1},
		{`{ `, 2, 2},
		{`{{`, 1, 1},
		{`{,}`, 1, 1},
		{`{"a"}`, 1, 1},
		{`{1a="x"}`, 1, 1},
		{`{.a="x"}`, 1, 1},
		{`{="x"}`, 1, 1},
		{`{!="x"}`, 1, 1},
		{`{!x`, 1, 1},
		{`{é="x"}`, 1, 1},
		{`{a`, 2, 2},
		{`{a `, 3, 3},
		{`{a}`, 2, 2},
		{`{a,`, 2, 2},
		{`{a b="1"}`, 3, 3},
		{`{a-b="1"}`, 2, 2},
		{`{a"1"}`, 2, 2},
		{`{a~"1"}`, 2, 2},
		{`{a:"1"}`, 2, 2},
		{`{a=`, 3, 3},
		{`{a=1}`, 3, 3},
		{`{a=="1"}`, 3, 3},
		{`{a=!"1"}`, 3, 3},
		{`{a= ~"1"}`, 4, 4},
		{`{a='1'}`, 3, 3},
		{`{a!`, 3, 3},
		{`{a!"1"}`, 3, 3},
		{`{a !"1"}`, 4, 4},
		{`{a! ="1"}`, 3, 3},
		{`{a!!="1"}`, 3, 3},
		{`{a!}`, 3, 3},
		{`{a!=}`, 2, 4},
		{`{a!~}`, 2, 4},
		{`{a !=x`, 3, 5},
		{`{a!==`, 2, 4},
		{`{a=~`, 3, 4},
		{`{a=~~"1"}`, 3, 4},
		{`{a="`, 4, 4},
		{`{a="1`, 5, 5},
		{`{a="1\`, 6, 6},
		{`{a="1\"`, 7, 7},
		{`{a="\t"}`, 5, 5},
		{"{a=\"1\n\"}", 5, 5},
		{"{a=\"\\\n\"}", 5, 5},
		{`{a="1"`, 6, 6},
		{`{a="1" `, 7, 7},
		{`{a="1""2"}`, 6, 6},
		{`{a="1" b="2"}`, 7, 7},
		{`{a="1";b="2"}`, 6, 6},
		{`{a="1",`, 7, 7},
		{`{a="1",}`, 7, 7},
		{`{a="1",,b="2"}`, 7, 7},
		{`{a="1",=`, 7, 7},
		{`{}{}`, 2, 2},
		{`{}x`, 2, 2},
		{`{} x`, 3, 3},
		{"{}\n", 2, 2},
		{"\n{}", 0, 0},
		{"{\r}", 1, 1},
		{`{a="1"},`, 7, 7},
		{`{a="", 1="x"}`, 7, 7}, // the form is asked ahead of what the attributes are
		{"{a=\"\xff\", a=}", 10, 10},
		{`{` + strings.Repeat("k", 65) + `}`, 66, 66},
	} {
		if l, e, place := Parse(c.s); e != api.ErrForm || place != c.set || len(l) != 0 {
			t.Errorf("Parse(%q) = %q, %d, %d, want place %d", c.s, l, e, place, c.set)
		}
		if l, e, place := ParseMatch(c.s); e != api.ErrForm || place != c.of || len(l) != 0 {
			t.Errorf("ParseMatch(%q) = %+v, %d, %d, want place %d", c.s, l, e, place, c.of)
		}
	}
}

// P4.3: Make's error of what a text says, with the place 0.
func TestParseErrors(t *testing.T) {
	var many []string
	for i := range api.MaxAttrs + 1 {
		many = append(many, "k"+strconv.Itoa(i)+`="1"`)
	}
	for _, c := range []struct {
		s string
		e api.Errno
	}{
		{`{a=""}`, api.ErrValue},
		{"{a=\"\xff\"}", api.ErrValue},
		{`{a="` + strings.Repeat("v", 257) + `"}`, api.ErrValue},
		{`{a="` + strings.Repeat("v", 256) + `"}`, api.OK},
		{`{` + strings.Repeat("k", 65) + `="1"}`, api.ErrKey},
		{`{` + strings.Repeat("k", 65) + `=""}`, api.ErrKey},
		{`{a="1", a="1"}`, api.ErrTwice},
		{`{a="1", b="2", a="3"}`, api.ErrTwice},
		{`{a="1", a="1", b=""}`, api.ErrValue},
		{`{` + strings.Join(many, ",") + `}`, api.ErrFull},
		{`{` + strings.Join(many[1:], ",") + `}`, api.OK},
		{`{` + strings.Repeat(`a="",`, 16) + `a=""}`, api.ErrFull},
	} {
		l, e, place := Parse(c.s)
		if e != c.e || place != 0 || (e != api.OK && len(l) != 0) {
			t.Errorf("Parse(%q) = %q, %d, %d, want %d", c.s, l, e, place, c.e)
		}
	}
}

// P4.4: RightMatch's error of what a text says, with the place 0.
func TestParseMatchErrors(t *testing.T) {
	for _, c := range []struct {
		s string
		e api.Errno
	}{
		{`{a=""}`, api.OK},
		{`{a="1", a="1"}`, api.OK},
		{"{a!=\"\xff\"}", api.ErrValue},
		{`{a!~"` + strings.Repeat("v", 257) + `"}`, api.ErrValue},
		{`{a!~"` + strings.Repeat("v", 256) + `"}`, api.OK},
		{`{` + strings.Repeat("k", 65) + `=~"` + strings.Repeat("v", 257) + `"}`, api.ErrKey},
		{`{` + strings.Repeat("k", 64) + `=~"1"}`, api.OK},
		{`{` + strings.Repeat(`a!="1",`, 7) + `b=""}`, api.OK},
		{`{` + strings.Repeat(`a!="1",`, 8) + `b=""}`, api.ErrFull},
		{`{` + strings.Repeat("a=\"\xff\",", 8) + `b=""}`, api.ErrFull},
	} {
		l, e, place := ParseMatch(c.s)
		if e != c.e || place != 0 || (e != api.OK && len(l) != 0) {
			t.Errorf("ParseMatch(%q) = %+v, %d, %d, want %d", c.s, l, e, place, c.e)
		}
	}
}

// P4.3, P4.4: MaxText bytes may be, one more is too long, whatever they are.
func TestParseSize(t *testing.T) {
	right := `{a="1"}`
	long := right + strings.Repeat(" ", api.MaxText-len(right))
	if l, e, place := Parse(long); e != api.OK || place != 0 || !slices.Equal(l, []api.Attr{at("a", "1")}) {
		t.Errorf("Parse of MaxText bytes = %q, %d, %d", l, e, place)
	}
	if l, e, place := ParseMatch(long); e != api.OK || place != 0 || !slices.Equal(l, []api.Matcher{ma(1, "a", "1")}) {
		t.Errorf("ParseMatch of MaxText bytes = %+v, %d, %d", l, e, place)
	}
	for _, s := range []string{long + " ", strings.Repeat("x", api.MaxText+1), strings.Repeat("{", 3*api.MaxText)} {
		if l, e, place := Parse(s); e != api.ErrSize || place != 0 || len(l) != 0 {
			t.Errorf("Parse of %d bytes = %q, %d, %d", len(s), l, e, place)
		}
		if l, e, place := ParseMatch(s); e != api.ErrSize || place != 0 || len(l) != 0 {
			t.Errorf("ParseMatch of %d bytes = %+v, %d, %d", len(s), l, e, place)
		}
	}
	open := `{a="` + strings.Repeat("x", api.MaxText-4)
	if _, e, place := Parse(open); e != api.ErrForm || place != api.MaxText {
		t.Errorf("Parse of MaxText bytes without an end = %d, %d", e, place)
	}
}

// mutated is a text with some bytes put in, taken out or turned into others.
func mutated(r *rand.Rand, s string) string {
	b := []byte(s)
	for range r.Intn(4) {
		i := r.Intn(len(b) + 1)
		x := "{}=!~,\"\\ \tab1.n\n\xff"[r.Intn(17)]
		switch r.Intn(3) {
		case 0:
			b = slices.Insert(b, i, x)
		case 1:
			b = slices.Delete(b, i, min(len(b), i+1+r.Intn(2)))
		case 2:
			if i < len(b) {
				b[i] = x
			}
		}
	}
	return string(b)
}

// P4.3, P4.4: texts that are nearly right, against the second way to find the first byte that can not stand.
func TestParseByModel(t *testing.T) {
	r := rand.New(rand.NewSource(47))
	right := 0
	for range 100000 {
		s := mutated(r, MatchText(anyMatchers(r, r.Intn(4))))
		if r.Intn(2) == 0 {
			s = mutated(r, Text(anySet(r, 4)))
		}
		want := modelPlace(s, false)
		if _, e, place := Parse(s); (want < 0) != (e != api.ErrForm) || place != max(want, 0) {
			t.Fatalf("Parse(%q) = %d, %d, want place %d", s, e, place, want)
		}
		want = modelPlace(s, true)
		l, e, place := ParseMatch(s)
		if (want < 0) != (e != api.ErrForm) || place != max(want, 0) {
			t.Fatalf("ParseMatch(%q) = %d, %d, want place %d", s, e, place, want)
		}
		if e != api.OK {
			continue
		}
		right++
		if again, e, _ := ParseMatch(MatchText(l)); e != api.OK || !slices.Equal(again, l) {
			t.Fatalf("ParseMatch(%s) = %+v, %d, want %+v", MatchText(l), again, e, l)
		}
	}
	if right < 1000 {
		t.Errorf("only %d texts are right: the test tells little", right)
	}
}

// P1: no call panics, whatever bytes it is given.
func TestParseOfAnything(t *testing.T) {
	r := rand.New(rand.NewSource(48))
	for range 50000 {
		b := make([]byte, r.Intn(30))
		r.Read(b)
		s := string(b)
		if r.Intn(2) == 0 {
			s = "{a=\"" + s
		}
		if _, e, place := Parse(s); e == api.ErrForm && place != modelPlace(s, false) {
			t.Fatalf("Parse(%q) = %d, %d", s, e, place)
		}
		if _, e, place := ParseMatch(s); e == api.ErrForm && place != modelPlace(s, true) {
			t.Fatalf("ParseMatch(%q) = %d, %d", s, e, place)
		}
		if _, e := Unquote(s); e == api.OK && s[0] != '"' {
			t.Fatalf("Unquote(%q) = %d", s, e)
		}
	}
}
