package frame

import (
	"math"
	"strings"
	"testing"

	"belfry/api"
)

const top = 1 << 53 // the greatest number of a request, of a grant

var id16 = []byte("0123456789abcdef")

// rights are requests that can be, of each operation, with the edges of what they have.
func rights() []Request {
	long := strings.Repeat("x", api.MaxText)
	return []Request{
		{Op: Put, Kind: api.KPoint},
		{Id: 1, Op: Put, Kind: api.KLine, Body: []byte("ab")},
		{Id: top, Op: Put, Kind: api.KSpan, Body: []byte(long)},
		{Op: Query, Kind: api.KPoint},
		{Op: Query, Kind: api.KPoint, Text: "up", At: api.MaxTime},
		{Op: Query, Kind: api.KLine, Text: "{}", From: 5, To: 5},
		{Op: Query, Kind: api.KLine, Text: long[:api.MaxLine], To: api.MaxTime},
		{Op: Query, Kind: api.KSpan, Text: "spans \u00e9", From: api.MaxTime, To: api.MaxTime},
		{Op: Trace, Body: id16},
		{Id: 9, Op: Stats},
		{Op: Policy},
		{Op: Policy, Text: long},
		{Op: Grant, Text: "grant"},
		{Op: Grant, Text: long[:api.MaxLine+1]},
		{Op: Revoke, At: 1},
		{Op: Revoke, At: top},
		{Op: Retain},
		{Op: Retain, At: api.MaxTime},
	}
}

// The chapter's example.
func TestExample(t *testing.T) {
	b, e := Write(Request{Id: 7, Op: Stats})
	if string(b) != "\x08\x07\x10\x04" || e != api.OK {
		t.Errorf("Write = %x, %d", b, e)
	}
	if r, e := Read([]byte("\x10\x04")); !Same(r, Request{Op: Stats}) || e != api.OK {
		t.Errorf("Read(10 04) = %v, %d", r, e)
	}
	if r, e := Read([]byte("\x10\x09")); !Same(r, Request{}) || e != api.ErrOp {
		t.Errorf("Read(10 09) = %v, %d", r, e)
	}
	if r, e := Read([]byte("\x10\x04\x08\x07")); !Same(r, Request{}) || e != api.ErrForm {
		t.Errorf("Read(10 04 08 07) = %v, %d", r, e)
	}
	if n := Cost(Request{Op: Put, Body: make([]byte, 8192)}); n != 3 {
		t.Errorf("Cost = %d", n)
	}
}

// P23.1: requests that can be.
func TestRight(t *testing.T) {
	for _, r := range rights() {
		if e := Right(r); e != api.OK {
			t.Errorf("Right(%.80v) = %d", r, e)
		}
	}
}

// P23.1: each error on its own, at and beyond each bound.
func TestWrong(t *testing.T) {
	long := strings.Repeat("x", api.MaxText+1)
	for _, c := range []struct {
		e api.Errno
		r Request
	}{
		{api.ErrArg, Request{Id: -1, Op: Stats}},
		{api.ErrArg, Request{Id: top + 1, Op: Stats}},
		{api.ErrArg, Request{Id: math.MinInt64, Op: Stats}},
		{api.ErrArg, Request{Id: math.MaxInt64, Op: Stats}},
		{api.ErrOp, Request{}},
		{api.ErrOp, Request{Op: -1}},
		{api.ErrOp, Request{Op: 9}},
		{api.ErrOp, Request{Op: math.MinInt}},
		{api.ErrOp, Request{Op: math.MaxInt}},
		{api.ErrArg, Request{Op: Put}},
		{api.ErrArg, Request{Op: Put, Kind: 4}},
		{api.ErrArg, Request{Op: Put, Kind: -1}},
		{api.ErrArg, Request{Op: Query}},
		{api.ErrArg, Request{Op: Query, Kind: 4}},
		{api.ErrArg, Request{Op: Query, Kind: math.MinInt}},
		{api.ErrArg, Request{Op: Query, Kind: api.KPoint, At: -1}},
		{api.ErrArg, Request{Op: Query, Kind: api.KPoint, At: api.MaxTime + 1}},
		{api.ErrArg, Request{Op: Query, Kind: api.KLine, From: -1}},
		{api.ErrArg, Request{Op: Query, Kind: api.KLine, From: 6, To: 5}},
		{api.ErrArg, Request{Op: Query, Kind: api.KLine, To: api.MaxTime + 1}},
		{api.ErrArg, Request{Op: Query, Kind: api.KSpan, From: api.MaxTime + 1, To: api.MaxTime + 1}},
		{api.ErrArg, Request{Op: Query, Kind: api.KSpan, From: -2, To: -1}},
		{api.ErrArg, Request{Op: Revoke}},
		{api.ErrArg, Request{Op: Revoke, At: -1}},
		{api.ErrArg, Request{Op: Revoke, At: top + 1}},
		{api.ErrArg, Request{Op: Retain, At: -1}},
		{api.ErrArg, Request{Op: Retain, At: api.MaxTime + 1}},
		{api.ErrSize, Request{Op: Put, Kind: api.KLine, Body: []byte(long)}},
		{api.ErrSize, Request{Op: Query, Kind: api.KLine, Text: long[:api.MaxLine+1]}},
		{api.ErrSize, Request{Op: Policy, Text: long}},
		{api.ErrSize, Request{Op: Grant, Text: long}},
		{api.ErrSize, Request{Op: Trace}},
		{api.ErrSize, Request{Op: Trace, Body: id16[:15]}},
		{api.ErrSize, Request{Op: Trace, Body: append(id16[:16:16], 0)}},
		{api.ErrUtf, Request{Op: Query, Kind: api.KLine, Text: "\xff"}},
		{api.ErrUtf, Request{Op: Policy, Text: "a\xc3"}},
		{api.ErrUtf, Request{Op: Grant, Text: "\xed\xa0\x80"}},
	} {
		if e := Right(c.r); e != c.e {
			t.Errorf("Right(%.80v) = %d, want %d", c.r, e, c.e)
		}
		if b, e := Write(c.r); b != nil || e != c.e {
			t.Errorf("Write(%.80v) = %x, %d, want %d", c.r, b, e, c.e)
		}
	}
}

// P23.1: a field that an operation has not must be zero, whatever it would be elsewhere.
func TestFieldsItHasNot(t *testing.T) {
	fields := map[string]func(*Request, int64){
		"Kind": func(r *Request, n int64) { r.Kind = int(n) },
		"Text": func(r *Request, n int64) { r.Text = "x" },
		"At":   func(r *Request, n int64) { r.At = n },
		"From": func(r *Request, n int64) { r.From = n },
		"To":   func(r *Request, n int64) { r.To = n },
		"Body": func(r *Request, n int64) { r.Body = id16 },
	}
	for _, c := range []struct {
		r   Request
		has string
	}{
		{Request{Op: Put, Kind: api.KLine}, "Kind Body"},
		{Request{Op: Query, Kind: api.KPoint}, "Kind Text At"},
		{Request{Op: Query, Kind: api.KLine}, "Kind Text From To"},
		{Request{Op: Query, Kind: api.KSpan}, "Kind Text From To"},
		{Request{Op: Trace, Body: id16}, "Body"},
		{Request{Op: Stats}, ""},
		{Request{Op: Policy}, "Text"},
		{Request{Op: Grant}, "Text"},
		{Request{Op: Revoke, At: 1}, "At"},
		{Request{Op: Retain, At: 1}, "At"},
	} {
		if e := Right(c.r); e != api.OK {
			t.Errorf("Right(%v) = %d", c.r, e)
		}
		for name, set := range fields {
			if strings.Contains(c.has, name) {
				continue
			}
			for _, n := range []int64{1, 3, -1, 4, api.MaxTime + 1, math.MinInt64} {
				r := c.r
				if set(&r, n); Right(r) != api.ErrForm {
					t.Errorf("Right(%v) = %d", r, Right(r))
				}
			}
		}
	}
}

// P23.1: where several errors apply, the one that is named first.
func TestOrderOfErrors(t *testing.T) {
	long := strings.Repeat("\xff", api.MaxText+1)
	for _, c := range []struct {
		e api.Errno
		r Request
	}{
		{api.ErrArg, Request{Id: -1, Op: 9, Kind: 9, Text: long}},
		{api.ErrOp, Request{Op: 9, Kind: 9, Text: long, Body: []byte(long)}},
		{api.ErrArg, Request{Op: Put, Text: long, At: 1}},
		{api.ErrArg, Request{Op: Query, Kind: api.KPoint, At: -1, Text: long, From: 1}},
		{api.ErrArg, Request{Op: Query, Kind: api.KLine, From: 1, Text: long, At: 1}},
		{api.ErrArg, Request{Op: Revoke, Text: long}},
		{api.ErrArg, Request{Op: Retain, At: -1, Text: long}},
		{api.ErrSize, Request{Op: Query, Kind: api.KLine, Text: long[:api.MaxLine+1], At: 1}},
		{api.ErrSize, Request{Op: Policy, Text: long, At: 1}},
		{api.ErrSize, Request{Op: Trace, Text: "\xff", At: 1}},
		// Of a text and a body the sizes, and of a text its form, are told ahead of its not belonging there.
		{api.ErrSize, Request{Op: Stats, Text: long}},
		{api.ErrSize, Request{Op: Stats, Body: []byte(long)}},
		{api.ErrUtf, Request{Op: Stats, Text: long[1:], At: 1}},
		{api.ErrUtf, Request{Op: Put, Kind: api.KLine, Text: "\xff"}},
		{api.ErrUtf, Request{Op: Policy, Text: "\xff", Body: []byte{1}}},
		{api.ErrForm, Request{Op: Policy, Text: "x", Body: []byte{1}}},
	} {
		if e := Right(c.r); e != c.e {
			t.Errorf("Right(%.80v) = %d, want %d", c.r, e, c.e)
		}
	}
}

// P23.1: Same holds every field against the other's.
func TestSame(t *testing.T) {
	r := Request{Id: 1, Op: 2, Kind: 3, Text: "x", At: 4, From: 5, To: 6, Body: []byte{7}}
	if !Same(r, r) || !Same(Request{}, Request{Body: []byte{}}) {
		t.Error("a request is not the same as itself")
	}
	for _, o := range []Request{
		{2, 2, 3, "x", 4, 5, 6, []byte{7}},
		{1, 3, 3, "x", 4, 5, 6, []byte{7}},
		{1, 2, 1, "x", 4, 5, 6, []byte{7}},
		{1, 2, 3, "y", 4, 5, 6, []byte{7}},
		{1, 2, 3, "x", 5, 5, 6, []byte{7}},
		{1, 2, 3, "x", 4, 4, 6, []byte{7}},
		{1, 2, 3, "x", 4, 5, 7, []byte{7}},
		{1, 2, 3, "x", 4, 5, 6, []byte{8}},
		{1, 2, 3, "x", 4, 5, 6, nil},
	} {
		if Same(r, o) || Same(o, r) {
			t.Errorf("%v is the same as %v", o, r)
		}
	}
}

// P23.1: words, whose an operation is, and what it costs.
func TestOperations(t *testing.T) {
	for op, c := range []struct {
		word  string
		admin bool
		cost  int64
	}{{"", false, 1}, {"put", false, 1}, {"query", false, 2}, {"trace", false, 2}, {"stats", false, 1}, {"policy", true, 1}, {"grant", true, 1}, {"revoke", true, 1}, {"retain", true, 1}, {"", false, 1}} {
		if Op(op) != c.word || Admin(op) != c.admin || Cost(Request{Op: op}) != c.cost {
			t.Errorf("of %d: %q, %v, %d", op, Op(op), Admin(op), Cost(Request{Op: op}))
		}
		if op != Put && Cost(Request{Op: op, Body: make([]byte, 9000)}) != c.cost {
			t.Errorf("the cost of %d hangs on a body", op)
		}
	}
	for _, op := range []int{-1, 10, math.MinInt, math.MaxInt} {
		if Op(op) != "" || Admin(op) || Cost(Request{Op: op}) != 1 {
			t.Errorf("of %d: %q, %v, %d", op, Op(op), Admin(op), Cost(Request{Op: op}))
		}
	}
}

// P23.1: what a Put costs, at the edges of whole 4096 bytes.
func TestCostOfPut(t *testing.T) {
	for n, want := range map[int]int64{0: 1, 1: 1, 4095: 1, 4096: 2, 4097: 2, 8191: 2, 8192: 3, 65535: 16, 65536: 17, 1 << 20: 257} {
		if c := Cost(Request{Op: Put, Body: make([]byte, n)}); c != want {
			t.Errorf("Cost of a Put of %d bytes = %d, want %d", n, c, want)
		}
	}
}
