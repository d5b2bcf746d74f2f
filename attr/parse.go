package attr

import (
	"belfry/api"
)

// Parse reads a set from its text. Beside ErrForm stands the place of the first byte that can not stand.
func Parse(s string) ([]api.Attr, api.Errno, int) {
	l, e, at := items(s, (*scan).attribute)
	if e != api.OK {
		return nil, e, at
	}
	set, e := Make(l...)
	return set, e, 0
}

// ParseMatch reads matchers from their text, and leaves them in its order.
func ParseMatch(s string) ([]api.Matcher, api.Errno, int) {
	l, e, at := items(s, (*scan).matcher)
	if e != api.OK {
		return nil, e, at
	}
	if e := RightMatch(l); e != api.OK {
		return nil, e, 0
	}
	return l, api.OK, 0
}

// items reads a text of what one reads, if it is not too long.
func items[T any](s string, one func(*scan) (T, bool)) ([]T, api.Errno, int) {
	if len(s) > api.MaxText {
		return nil, api.ErrSize, 0
	}
	c := scan{text: s}
	l, ok := braces(&c, one)
	if !ok {
		return nil, api.ErrForm, c.at
	}
	return l, api.OK, 0
}

// braces reads a whole text: braces, and in them what one reads, with commas between.
func braces[T any](c *scan, one func(*scan) (T, bool)) ([]T, bool) {
	if !c.sign('{') {
		return nil, false
	}
	var l []T
	for more := !c.sign('}'); more; {
		item, ok := one(c)
		if !ok {
			return nil, false
		}
		l = append(l, item)
		more = c.sign(',')
		if !more && !c.sign('}') {
			return nil, false
		}
	}
	return l, c.at == len(c.text)
}

// Unquote reads a text that stands in quotes.
func Unquote(s string) (string, api.Errno) {
	c := scan{text: s}
	value, ok := c.quoted()
	if !ok || c.at < len(s) {
		return "", api.ErrForm
	}
	return value, api.OK
}

// scan is a text that is read from the left. A reading that fails leaves at on the first byte that can not stand, so that the place of a fault is where the scan has stopped.
type scan struct {
	text string
	at   int
}

func (c *scan) next() (byte, bool) {
	if c.at == len(c.text) {
		return 0, false
	}
	return c.text[c.at], true
}

// take goes behind x, if it is what comes next.
func (c *scan) take(x byte) bool {
	if y, ok := c.next(); !ok || x != y {
		return false
	}
	c.at++
	return true
}

func (c *scan) blanks() {
	for c.take(' ') || c.take('\t') {
	}
}

// sign takes x, and the blanks about it.
func (c *scan) sign(x byte) bool {
	c.blanks()
	if !c.take(x) {
		return false
	}
	c.blanks()
	return true
}

func (c *scan) attribute() (api.Attr, bool) {
	key, ok := c.key()
	if !ok || !c.equals() {
		return api.Attr{}, false
	}
	value, ok := c.value()
	return api.Attr{Key: key, Value: value}, ok
}

func (c *scan) matcher() (api.Matcher, bool) {
	key, ok := c.key()
	if !ok {
		return api.Matcher{}, false
	}
	op, ok := c.operator()
	if !ok {
		return api.Matcher{}, false
	}
	value, ok := c.value()
	return api.Matcher{Op: op, Key: key, Value: value}, ok
}

// key reads the letters of a key. How long it may be Make and RightMatch say.
func (c *scan) key() (string, bool) {
	from := c.at
	for {
		x, ok := c.next()
		if !ok || !keyByte(x, c.at == from) {
			break
		}
		c.at++
	}
	return c.text[from:c.at], c.at > from
}

// operator reads a matcher's operator. A ! may stand, so behind it is the byte that can not.
func (c *scan) operator() (int, bool) {
	c.blanks()
	if c.take('!') {
		return c.either(api.MNe, api.MNot)
	}
	if !c.take('=') {
		return 0, false
	}
	if c.take('~') {
		return api.MHas, true
	}
	return api.MEq, true
}

// either reads an operator's second sign: = or ~.
func (c *scan) either(equal, has int) (int, bool) {
	if c.take('=') {
		return equal, true
	}
	return has, c.take('~')
}

// equals reads the one operator of a set. A ! that begins a matcher's operator can not stand itself; of another one the place behind it is named, as in matchers.
func (c *scan) equals() bool {
	c.blanks()
	if c.take('=') {
		return true
	}
	from := c.at
	if _, ok := c.operator(); ok {
		c.at = from
	}
	return false
}

func (c *scan) value() (string, bool) {
	c.blanks()
	return c.quoted()
}

// quoted reads a text in quotes.
func (c *scan) quoted() (string, bool) {
	if !c.take('"') {
		return "", false
	}
	var out []byte
	for {
		x, ok := c.next()
		if !ok || x == '\n' {
			return "", false
		}
		c.at++
		switch x {
		case '"':
			return string(out), true
		case '\\':
			if x, ok = c.escaped(); !ok {
				return "", false
			}
		}
		out = append(out, x)
	}
}

// escaped reads what stands behind a backslash.
func (c *scan) escaped() (byte, bool) {
	switch {
	case c.take('"'):
		return '"', true
	case c.take('\\'):
		return '\\', true
	case c.take('n'):
		return '\n', true
	}
	return 0, false
}
