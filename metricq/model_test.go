package metricq

import (
	"math/big"
	"math/rand"
	"regexp"
	"slices"
	"strings"
	"testing"
	"unicode/utf8"

	"belfry/api"
	"belfry/attr"
	"belfry/fixed"
)

// A second way to find the first fault: tokens by regular expressions, and a machine with a stack that goes through them.

// piece is a token of the model: w a word, 1 a number, " a text in quotes, = a matcher's operator, a sign for itself, $ what can not be, . the end.
type piece struct {
	is   byte
	at   int
	text string
}

var (
	modelPieces = regexp.MustCompile(`^(?:([a-zA-Z_][a-zA-Z0-9_.]*)|([0-9][0-9.]*)|("(?:[^"\\\n]|\\["\\n])*")|([!=]~|!?=)|([-+*/(){}\[\],]))`)
	modelSpans  = regexp.MustCompile(`^[0-9][a-zA-Z0-9_.]*`)
	modelNumber = regexp.MustCompile(`^(0|[1-9][0-9]{0,12})(\.[0-9]{1,6})?$`)
)

// modelNext is the piece at a place, and the place behind it.
func modelNext(s string, at int) (piece, int) {
	at += len(s[at:]) - len(strings.TrimLeft(s[at:], " \t"))
	if at == len(s) {
		return piece{is: '.', at: at}, at
	}
	m := modelPieces.FindStringSubmatch(s[at:])
	if m == nil {
		return piece{is: '$', at: at}, at
	}
	p := piece{at: at, text: m[0]}
	switch {
	case m[1] != "":
		p.is = 'w'
	case m[2] != "":
		p.is = '1'
		if !modelNumber.MatchString(m[2]) || beyond(m[2]) {
			p.is = '$'
		}
	case m[3] != "":
		p.is = '"'
		p.text = strings.NewReplacer(`\"`, `"`, `\\`, `\`, `\n`, "\n").Replace(m[3][1 : len(m[3])-1])
	case m[4] != "":
		p.is = '='
	default:
		p.is = m[5][0]
	}
	return p, at + len(m[0])
}

// beyond tells whether a number is above the greatest fixed one.
func beyond(s string) bool {
	whole, part, _ := strings.Cut(s, ".")
	n, _ := new(big.Int).SetString(whole+(part + "000000")[:6], 10)
	return n.Cmp(big.NewInt(fixed.Top)) > 0
}

// model is the machine: what has yet to come, the next one last; how many are open; how many nodes there are.
type model struct {
	stack []string
	open  int
	nodes int
	keys  []string
	match int
}

// push puts what has to come upon the stack.
func (m *model) push(nodes int, list string) {
	m.nodes += nodes
	l := strings.Fields(list)
	slices.Reverse(l)
	m.stack = append(m.stack, l...)
}

var (
	aggWord  = regexp.MustCompile(`^(sum|min|max|avg|count)$`)
	callWord = regexp.MustCompile(`^(rate|delta|last)$`)
)

// modelFault is what Parse should answer of a text: an error and its place; of OK how many nodes there are.
func modelFault(s string) (api.Errno, int, int) {
	if len(s) > api.MaxLine {
		return api.ErrSize, 0, 0
	}
	m := &model{stack: []string{".", "E"}}
	for at := 0; len(m.stack) > 0; {
		top := m.stack[len(m.stack)-1]
		m.stack = m.stack[:len(m.stack)-1]
		if top == "end" { // of what a - stands ahead of
			m.open--
			continue
		}
		p, behind := modelNext(s, at)
		if span := modelSpans.FindString(s[p.at:]); top == "SPAN" && span != "" {
			if _, e := modelSpan(span); e != api.OK {
				return api.ErrToken, p.at, 0
			}
			at = p.at + len(span)
			continue
		}
		if p.is == '$' {
			return api.ErrToken, p.at, 0
		}
		if m.expand(top, p) {
			continue
		}
		if e := m.match1(top, p); e != api.OK {
			return e, p.at, 0
		}
		at = behind
	}
	return api.OK, 0, m.nodes
}

// expand puts the parts of what is made of others upon the stack, as the next piece tells them; false of what is one piece.
func (m *model) expand(top string, p piece) bool {
	choose := func(is byte, list string) {
		if p.is == is {
			m.push(0, list)
		}
	}
	switch top {
	case "E":
		m.push(0, "O X")
	case "X":
		if strings.IndexByte("+-*/", p.is) >= 0 {
			m.push(1, string(p.is)+" O X")
		}
	case "O":
		return m.operand(p)
	case "BY?":
		if p.is == 'w' && p.text == "by" {
			m.keys = nil
			m.push(0, "w ( KEY KEY* )")
		}
	case "KEY*":
		choose(',', ", KEY KEY*")
	case "M?":
		m.match = 0
		choose('{', "{ M }")
	case "M":
		if p.is != '}' {
			m.push(0, "MKEY = VALUE M*")
		}
	case "M*":
		choose(',', ", MKEY = VALUE M*")
	default:
		return false
	}
	return true
}

func (m *model) operand(p piece) bool {
	switch {
	case p.is == '1':
		m.push(1, "1")
	case p.is == '(':
		m.push(1, "( E )")
	case p.is == '-':
		m.push(1, "-open O end")
	case p.is == 'w' && aggWord.MatchString(p.text):
		m.push(1, "w BY? ( E )")
	case p.is == 'w' && callWord.MatchString(p.text):
		m.push(2, "w ( NAME M? [ SPAN ] )")
	default:
		m.push(1, "NAME M?")
	}
	return true
}

// match1 holds a piece against what has to come.
func (m *model) match1(top string, p piece) api.Errno {
	word := p.is == 'w'
	long := len(p.text) > api.MaxKey
	switch top {
	case "NAME":
		if p.is == '"' && !canName(p.text) {
			return api.ErrToken
		}
		return orQuery(p.is == '"' || word && p.text != "by" && !aggWord.MatchString(p.text) && !callWord.MatchString(p.text))
	case "KEY":
		if word && (long || slices.Contains(m.keys, p.text) || len(m.keys) == 16) {
			return api.ErrToken
		}
		m.keys = append(m.keys, p.text)
		return orQuery(word)
	case "MKEY":
		if word && (long || m.match == 8) {
			return api.ErrToken
		}
		m.match++
		return orQuery(word)
	case "VALUE":
		if p.is == '"' && p.text != "" && !canName(p.text) {
			return api.ErrToken
		}
		return orQuery(p.is == '"')
	case "(", "-open":
		if p.is == top[0] && m.open == 16 {
			return api.ErrDeep
		}
		m.open++
	case ")":
		m.open--
	}
	return orQuery(p.is == top[0])
}

func orQuery(ok bool) api.Errno {
	if ok {
		return api.OK
	}
	return api.ErrQuery
}

func canName(s string) bool {
	return s != "" && len(s) <= 256 && utf8.ValidString(s)
}

// maker makes queries of any kind: a text, with blanks of any kind, and the nodes that it should be read as.
type maker struct {
	r     *rand.Rand
	text  strings.Builder
	nodes []api.Node
}

func (k *maker) pick(l ...string) string { return l[k.r.Intn(len(l))] }

// put writes pieces, with blanks about them; a blank stands at least between two pieces that would else be one.
func (k *maker) put(pieces ...string) {
	for _, p := range pieces {
		k.text.WriteString(k.pick("", "", " ", "\t", " \t "))
		last := k.text.String()
		if last != "" && inWord(last[len(last)-1]) && inWord(p[0]) {
			k.text.WriteString(k.pick(" ", "\t"))
		}
		k.text.WriteString(p)
	}
	k.text.WriteString(k.pick("", "", " "))
}

func inWord(x byte) bool {
	return x == '_' || x == '.' || attr.Key("a"+string(rune(x))) && x < 128
}

func (k *maker) add(n api.Node) int {
	k.nodes = append(k.nodes, n)
	return len(k.nodes) - 1
}

func (k *maker) sum(deep int) int {
	a := k.product(deep)
	for range k.r.Intn(6) / 4 {
		op := k.r.Intn(2)
		k.put([]string{"+", "-"}[op])
		b := k.product(deep)
		a = k.add(two(a, api.OAdd+op, b))
	}
	return a
}

func (k *maker) product(deep int) int {
	a := k.operand(deep)
	for range k.r.Intn(6) / 4 {
		op := k.r.Intn(2)
		k.put([]string{"*", "/"}[op])
		b := k.operand(deep)
		a = k.add(two(a, api.OMul+op, b))
	}
	return a
}

func (k *maker) operand(deep int) int {
	kind := k.r.Intn(7)
	if deep == 0 {
		kind = k.r.Intn(2)
	}
	switch kind {
	case 0:
		v := k.r.Int63n(100) * []int64{1, 1000, api.One}[k.r.Intn(3)]
		k.put(fixed.Text(v))
		return k.add(api.Node{Kind: api.NNumber, V: v})
	case 1, 2:
		return k.add(k.selector())
	case 3:
		n := api.Node{Kind: api.NAgg, Name: k.pick("sum", "min", "max", "avg", "count")}
		k.put(n.Name)
		if k.r.Intn(2) == 0 {
			n.By = k.keys()
		}
		k.put("(")
		n.A = k.sum(deep - 1)
		k.put(")")
		return k.add(n)
	case 4:
		return k.call()
	case 5:
		k.put("-")
		return k.add(neg(k.operand(deep - 1)))
	}
	k.put("(")
	a := k.sum(deep - 1)
	k.put(")")
	return k.add(paren(a))
}

func (k *maker) call() int {
	n := call(k.pick("rate", "delta", "last"), 0)
	k.put(n.Name, "(")
	s := k.selector()
	i := k.r.Intn(4)
	k.put("[", []string{"5m", "60s", "1000000ns", "312h"}[i], "]", ")")
	s.Range = []int64{300e9, 60e9, 1e6, 312 * 3600e9}[i]
	n.A = k.add(s)
	return k.add(n)
}

func (k *maker) keys() []string {
	keys := []string{"a", "b.c", "sum", "by", "_"}
	k.r.Shuffle(len(keys), func(i, j int) { keys[i], keys[j] = keys[j], keys[i] })
	keys = keys[:1+k.r.Intn(3)]
	k.put("by", "(", keys[0])
	for _, key := range keys[1:] {
		k.put(",", key)
	}
	k.put(")")
	return keys
}

func (k *maker) selector() api.Node {
	n := sel(k.pick("up", "a.b_9", "Sum", "sum", "by", "x y", "\"\n\\", "é", "{"))
	if inName := regexp.MustCompile(`^[a-zA-Z_][a-zA-Z0-9_.]*$`); !inName.MatchString(n.Name) || n.Name == "sum" || n.Name == "by" || k.r.Intn(4) == 0 {
		k.put(attr.Quote(n.Name))
	} else {
		k.put(n.Name)
	}
	if k.r.Intn(2) == 0 {
		return n
	}
	k.put("{")
	for i := range k.r.Intn(3) {
		if i > 0 {
			k.put(",")
		}
		m := ma(1+k.r.Intn(4), k.pick("a", "b.c", "sum"), k.pick("", "1", "}", "é\"", "\n\\ x"))
		k.put(m.Key, []string{"=", "!=", "=~", "!~"}[m.Op-1], attr.Quote(m.Value))
		n.Match = append(n.Match, m)
	}
	k.put("}")
	return n
}

// P13.1, P13.4, P13.5, P9: queries of any kind, with blanks of any kind, are read as their nodes; what is written is read again as it was.
func TestAsItWas(t *testing.T) {
	r := rand.New(rand.NewSource(134))
	right := 0
	for range 20000 {
		k := &maker{r: r}
		k.sum(r.Intn(5))
		s := k.text.String()
		l, e, at := Parse(s)
		if at != 0 || e != api.OK && (e != api.ErrFull || len(k.nodes) <= 100 && len(text(k.nodes)) <= 1024) && len(s) <= 1024 {
			t.Fatalf("Parse(%q) = %d, %d", s, e, at)
		}
		if e != api.OK {
			continue
		}
		right++
		if !Same(l, k.nodes) || Right(l) != api.OK {
			t.Fatalf("Parse(%q) = %v, want %v", s, l, k.nodes)
		}
		p, e := Print(l)
		again, e2, _ := Parse(p)
		if e != api.OK || e2 != api.OK || !Same(again, l) {
			t.Fatalf("%q is written %q", s, p)
		}
	}
	if right < 10000 {
		t.Errorf("only %d texts are queries: the test tells little", right)
	}
}

// mutated is a text with some bytes put in, taken out or turned into others.
func mutated(r *rand.Rand, s string) string {
	b := []byte(s)
	some := []string{"(", ")", "-", "-(", "+", "{", "}", "[", "]", ",", "=", "!", "~", "\"", "\\", "\n", "\xff", " ", "1", ".", "a", "sum", "by", "rate(", " by (", "$", "01", "1.", "\"\"", strings.Repeat("k", 65)}
	for range r.Intn(4) {
		i := r.Intn(len(b) + 1)
		x := []byte(some[r.Intn(len(some))])
		switch r.Intn(3) {
		case 0:
			b = slices.Insert(b, i, x...)
		case 1:
			b = slices.Delete(b, i, min(len(b), i+1+r.Intn(2)))
		case 2:
			b = slices.Replace(b, i, min(len(b), i+1), x...)
		}
	}
	return string(b)
}

// P13.1: texts that are nearly queries, against the second way to find the first fault.
func TestParseByModel(t *testing.T) {
	r := rand.New(rand.NewSource(135))
	seen := map[api.Errno]int{}
	for range 50000 {
		k := &maker{r: r}
		k.sum(r.Intn(4))
		s := mutated(r, k.text.String())
		if r.Intn(8) == 0 {
			s = strings.Repeat(k.pick("(", "-", "- (", "sum(", "\t-"), 8+r.Intn(10)) + s
		}
		want, place, nodes := modelFault(s)
		l, e, at := Parse(s)
		seen[e]++
		if e == api.ErrFull && want == api.OK && at == 0 && l == nil {
			if nodes > 100 || len(s) > 800 {
				continue
			}
		}
		if e != want || at != place || len(l) != nodes {
			t.Fatalf("Parse(%q) = %d nodes, %d, %d, want %d, %d, %d", s, len(l), e, at, nodes, want, place)
		}
	}
	for _, e := range []api.Errno{api.OK, api.ErrToken, api.ErrQuery, api.ErrDeep} {
		if seen[e] < 500 {
			t.Errorf("only %d texts have the error %d: the test tells little", seen[e], e)
		}
	}
}

// P1: texts of any bytes and of any signs, against the second way.
func TestParseOfAnything(t *testing.T) {
	r := rand.New(rand.NewSource(136))
	words := strings.Fields(`up sum by ( ) ( ) { } [ ] , + - * / = != =~ !~ "x" "" " 1 1. 5m rate a $ !`)
	for i := range 50000 {
		b := make([]byte, r.Intn(20))
		r.Read(b)
		s := string(b)
		if i%2 == 0 {
			s = ""
			for range r.Intn(12) {
				s += words[r.Intn(len(words))] + " "[:r.Intn(2)]
			}
		}
		want, place, nodes := modelFault(s)
		if l, e, at := Parse(s); e != want || at != place || len(l) != nodes {
			t.Fatalf("Parse(%q) = %d nodes, %d, %d, want %d, %d, %d", s, len(l), e, at, nodes, want, place)
		}
		if _, e := ParseSpan(s); e == api.OK && !spanForm.MatchString(s) {
			t.Fatalf("ParseSpan(%q) = %d", s, e)
		}
	}
}
