package frame

import (
	"bytes"
	"encoding/binary"
	"math"
	"math/rand"
	"slices"
	"strings"
	"testing"

	"belfry/api"
)

// varint and piece write fields without package wire.
func varint(num int, n uint64) string {
	return string(binary.AppendUvarint([]byte{byte(num << 3)}, n))
}

func piece(num int, s string) string {
	return string(binary.AppendUvarint([]byte{byte(num<<3 | 2)}, uint64(len(s)))) + s
}

// written is a request's bytes, by the chapter's words.
func written(r Request) string {
	var s strings.Builder
	for num, n := range []int64{0, r.Id, int64(r.Op), int64(r.Kind), 0, r.At, r.From, r.To} {
		if num == 4 && r.Text != "" {
			s.WriteString(piece(4, r.Text))
		}
		if n != 0 {
			s.WriteString(varint(num, uint64(n)))
		}
	}
	if len(r.Body) > 0 {
		s.WriteString(piece(8, string(r.Body)))
	}
	return s.String()
}

// P23.2, P23.4: requests of each operation are written as the chapter says, and read again.
func TestWriteAndRead(t *testing.T) {
	for _, r := range rights() {
		b, e := Write(r)
		if e != api.OK || string(b) != written(r) {
			t.Errorf("Write(%.80v) = %.80x, %d, want %.80x", r, b, e, written(r))
		}
		was := bytes.Clone(b)
		x, e := Read(b)
		if e != api.OK || !Same(x, r) {
			t.Errorf("Read(%.80x) = %.80v, %d", b, x, e)
		}
		if !bytes.Equal(b, was) {
			t.Errorf("Read has changed %.80x", was)
		}
	}
	all := Request{Id: 300, Op: Query, Kind: api.KLine, Text: "{}", From: 1, To: 128}
	if b, _ := Write(all); string(b) != "\x08\xac\x02\x10\x02\x18\x02\x22\x02{}\x30\x01\x38\x80\x01" {
		t.Errorf("Write = %x", b)
	}
}

// P23.2: bytes that are no request.
func TestReadFaults(t *testing.T) {
	line := varint(2, Query) + varint(3, api.KLine)
	for _, c := range []struct {
		what string
		e    api.Errno
		s    string
	}{
		{"a varint that ends too early", api.ErrShort, "\x10"},
		{"bytes that are missing", api.ErrShort, "\x22\x05abc"},
		{"a field of the number 0", api.ErrWire, "\x00\x00"},
		{"a type that is none", api.ErrWire, "\x13\x00"},
		{"a varint above 64 bits", api.ErrWire, "\x08\xff\xff\xff\xff\xff\xff\xff\xff\xff\x02"},
		{"another number", api.ErrForm, varint(2, Stats) + varint(9, 1)},
		{"a great number", api.ErrForm, varint(2, Stats) + "\xf8\xff\xff\xff\x0f\x01"},
		{"another type of Id", api.ErrForm, piece(1, "x") + varint(2, Stats)},
		{"another type of Op", api.ErrForm, "\x15\x04\x00\x00\x00"},
		{"eight bytes of At", api.ErrForm, varint(2, Retain) + "\x29\x04\x00\x00\x00\x00\x00\x00\x00"},
		{"another type of Text", api.ErrForm, varint(2, Policy) + varint(4, 1)},
		{"another type of Body", api.ErrForm, varint(2, Put) + varint(3, 2) + varint(8, 1)},
		{"a field twice", api.ErrForm, varint(1, 7) + varint(1, 7) + varint(2, Stats)},
		{"Op twice", api.ErrForm, varint(2, Stats) + varint(2, Stats)},
		{"out of order", api.ErrForm, varint(2, Stats) + varint(1, 7)},
		{"Body ahead of Kind", api.ErrForm, varint(2, Put) + piece(8, "x") + varint(3, 2)},
		{"a number above 2^63 - 1", api.ErrForm, varint(1, 1<<63) + varint(2, Stats)},
		{"the greatest number", api.ErrForm, varint(1, math.MaxUint64) + varint(2, Stats)},
		{"an Op above 2^63 - 1", api.ErrForm, varint(2, 1<<63+Stats)},
		{"At above 2^63 - 1", api.ErrForm, varint(2, Retain) + varint(5, 1<<63)},
		{"no Op", api.ErrOp, ""},
		{"no Op, but a number", api.ErrOp, varint(1, 7)},
		{"an Op that is none", api.ErrOp, varint(2, 9)},
		{"the greatest Op", api.ErrOp, varint(2, math.MaxInt64)},
		{"a number that can not be", api.ErrArg, varint(1, top+1) + varint(2, Stats)},
		{"the greatest number that is read", api.ErrArg, varint(1, math.MaxInt64) + varint(2, Stats)},
		{"no Kind", api.ErrArg, varint(2, Put)},
		{"From above To", api.ErrArg, line + varint(6, 5) + varint(7, 4)},
		{"a trace of 15 bytes", api.ErrSize, varint(2, Trace) + piece(8, "123456789012345")},
		{"a query that is too long", api.ErrSize, line + piece(4, strings.Repeat("x", api.MaxLine+1))},
		{"no UTF-8", api.ErrUtf, line + piece(4, "\xff")},
		{"a field that it has not", api.ErrForm, varint(2, Stats) + varint(3, 1)},
		{"a 0 that is written", api.ErrForm, varint(1, 0) + varint(2, Stats)},
		{"a 0 behind", api.ErrForm, varint(2, Stats) + varint(3, 0)},
		{"an empty text that is written", api.ErrForm, line + piece(4, "")},
		{"an empty body that is written", api.ErrForm, varint(2, Stats) + piece(8, "")},
		{"a varint that could be shorter", api.ErrForm, "\x10\x84\x00"},
		{"a head that could be shorter", api.ErrForm, "\x90\x00\x04"},
		{"a length that could be shorter", api.ErrForm, line + "\x22\x82\x00{}"},
	} {
		if r, e := Read([]byte(c.s)); e != c.e || !Same(r, Request{}) || r.Body != nil {
			t.Errorf("%s: Read(%.80x) = %.80v, %d, want %d", c.what, c.s, r, e, c.e)
		}
	}
}

// P23.2: errors in their order: the size, wire.Read's, the fields' form, Right's, and only then how it is written.
func TestOrderOfReadErrors(t *testing.T) {
	tooLong := make([]byte, 2*api.MaxText+1)
	if _, e := Read(tooLong); e != api.ErrSize {
		t.Errorf("Read of 2 MaxText + 1 bytes = %d", e)
	}
	// 0 is no field: behind the size comes wire.Read's.
	if _, e := Read(tooLong[1:]); e != api.ErrWire {
		t.Errorf("Read of 2 MaxText bytes = %d", e)
	}
	for _, c := range []struct {
		e api.Errno
		s string
	}{
		{api.ErrFull, strings.Repeat(varint(1, 1), api.MaxFields+1)},
		{api.ErrForm, strings.Repeat(varint(1, 1), api.MaxFields)},
		{api.ErrShort, varint(9, 1) + "\x08"},
		{api.ErrForm, varint(1, math.MaxInt64) + varint(2, 9) + varint(9, 1)},
		{api.ErrForm, varint(1, top+1) + varint(1, 1)},
		{api.ErrArg, varint(1, top+1) + varint(2, 9) + varint(3, 0)},
		{api.ErrOp, varint(1, 0) + varint(2, 9)},
		{api.ErrUtf, varint(1, 0) + varint(2, Policy) + piece(4, "\xff")},
		{api.ErrSize, varint(1, 0) + varint(2, Trace) + piece(8, "x")},
	} {
		if _, e := Read([]byte(c.s)); e != c.e {
			t.Errorf("Read(%.80x) = %d, want %d", c.s, e, c.e)
		}
	}
	// The longest request is far below 2 MaxText: one with more bytes than it may have is still told by its own error.
	if _, e := Read([]byte(varint(2, Policy) + piece(4, strings.Repeat("x", api.MaxText+1)))); e != api.ErrSize {
		t.Errorf("Read of a text that is too long = %d", e)
	}
	if _, e := Read([]byte(varint(2, Stats) + piece(4, strings.Repeat("x", api.MaxText)) + piece(8, strings.Repeat("x", api.MaxText-20)))); e != api.ErrForm {
		t.Errorf("Read of what Stats has not = %d", e)
	}
}

// some tells a request by chance, made of one that can be.
func some(r *rand.Rand, all []Request) Request {
	x := all[r.Intn(len(all))]
	x.Text, x.Body = x.Text[:min(len(x.Text), 20)], x.Body[:min(len(x.Body), 16)]
	numbers := []int64{0, 1, 2, 127, 128, top, top + 1, api.MaxTime, api.MaxTime + 1, -1, math.MaxInt64, math.MinInt64}
	for range r.Intn(3) {
		n := numbers[r.Intn(len(numbers))]
		switch r.Intn(8) {
		case 0:
			x.Id = n
		case 1:
			x.Op = r.Intn(11) - 1
		case 2:
			x.Kind = r.Intn(6) - 1
		case 3:
			x.Text = []string{"", "a", "\xff", "\u00e9", "\x00"}[r.Intn(5)]
		case 4:
			x.At = n
		case 5:
			x.From = n
		case 6:
			x.To = n
		case 7:
			x.Body = make([]byte, r.Intn(18))
		}
	}
	return x
}

// P23.4: Read of Write is the request; Write of Read is the bytes.
func TestAsItWasWritten(t *testing.T) {
	r := rand.New(rand.NewSource(1))
	seen := map[api.Errno]int{}
	all := rights()
	for range 20000 {
		x := some(r, all)
		b, e := Write(x)
		seen[e]++
		if e != Right(x) || (e != api.OK) != (b == nil) {
			t.Fatalf("Write(%v) = %x, %d", x, b, e)
		}
		if e != api.OK {
			continue
		}
		if y, e := Read(b); e != api.OK || !Same(x, y) {
			t.Fatalf("Read(%x) = %v, %d, want %v", b, y, e, x)
		}
		mutate(r, &b)
		if y, e := Read(b); e == api.OK {
			if again, e := Write(y); e != api.OK || !bytes.Equal(again, b) {
				t.Fatalf("Write(Read(%x)) = %x, %d", b, again, e)
			}
		} else if !Same(y, Request{}) {
			t.Fatalf("Read(%x) = %v beside %d", b, y, e)
		}
	}
	for _, e := range []api.Errno{api.OK, api.ErrArg, api.ErrOp, api.ErrSize, api.ErrUtf, api.ErrForm} {
		if seen[e] == 0 {
			t.Errorf("no request has the error %d", e)
		}
	}
}

// mutate changes some bytes.
func mutate(r *rand.Rand, b *[]byte) {
	for range r.Intn(3) {
		at := r.Intn(len(*b) + 1)
		switch {
		case r.Intn(3) == 0:
			*b = slices.Insert(*b, at, byte(r.Intn(256)))
		case at < len(*b) && r.Intn(2) == 0:
			*b = slices.Delete(*b, at, at+1)
		case at < len(*b):
			(*b)[at] ^= 1 << r.Intn(8)
		}
	}
}

// What is answered is new memory, and what is handed in is not changed.
func TestMemory(t *testing.T) {
	body := bytes.Clone(id16)
	r := Request{Op: Put, Kind: api.KLine, Body: body}
	b, _ := Write(r)
	was := bytes.Clone(b)
	x, _ := Read(b)
	clear(body)
	if !bytes.Equal(b, was) {
		t.Error("Write shares memory with the body")
	}
	clear(b)
	if !bytes.Equal(x.Body, id16) {
		t.Error("Read shares memory with the bytes")
	}
	y, _ := Read(was)
	clear(x.Body)
	if !bytes.Equal(y.Body, id16) || !bytes.Contains(was, id16) {
		t.Error("two answers of Read share memory")
	}
}
