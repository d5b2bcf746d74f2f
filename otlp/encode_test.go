package otlp

import (
	"bytes"
	"math"
	"math/rand"
	"slices"
	"strings"
	"testing"

	"belfry/api"
	"belfry/wire"
)

func expectBytes(t *testing.T, what string, kind int, want []byte, l ...api.Record) {
	t.Helper()
	if b, e := Encode(kind, l...); e != api.OK || !bytes.Equal(b, want) {
		t.Errorf("%s: Encode(%+v) = % x, %d, want % x", what, l, b, e, want)
	}
}

func expectRefused(t *testing.T, what string, kind int, want api.Errno, l ...api.Record) {
	t.Helper()
	if b, e := Encode(kind, l...); e != want || len(b) != 0 {
		t.Errorf("%s: Encode of %d records = % x, %d, want %d", what, len(l), b, e, want)
	}
}

// The chapter's example; and no records.
func TestEncodeExample(t *testing.T) {
	expectBytes(t, "a line", api.KLine, []byte("\x0a\x13\x12\x11\x12\x0f\x09\x05\x00\x00\x00\x00\x00\x00\x00\x2a\x04\x0a\x02hi"), api.Record{Kind: api.KLine, T: 5, Text: "hi"})
	for kind := api.KPoint; kind <= api.KSpan; kind++ {
		expectBytes(t, "none", kind, nil)
	}
}

// P5.3: the fields of each kind, in order of their numbers; those that are zero or empty left out, but those that must stand.
func TestEncodeFields(t *testing.T) {
	tr, own := string(trace[:]), string(id[:])
	point := func(name string, l ...wire.Field) wire.Field { return in(2, str(1, name), in(5, in(1, l...))) }
	for _, c := range []struct {
		what string
		r    api.Record
		want wire.Field
	}{
		{"a full point", fullPoint(), point("up", eight(3, 7), eight(6, 3), kv(7, "a", "x"), kv(7, "b", "y"))},
		{"a bare point", api.Record{Kind: api.KPoint, Name: "n"}, point("n", eight(3, 0), eight(6, 0))},
		{"a point below 0", api.Record{Kind: api.KPoint, Name: "n", V: -2 * api.One}, point("n", eight(3, 0), eight(6, math.MaxUint64-1))},
		{"a great point", api.Record{Kind: api.KPoint, Name: "n", T: api.MaxTime, V: 9223372036854 * api.One}, point("n", eight(3, api.MaxTime), eight(6, 9223372036854))},
		{"a full line", fullLine(), in(2, eight(1, 7), varint(2, 9), in(5, str(1, "hi")), kv(6, "a", "x"), kv(6, "b", "y"), str(9, tr), str(10, own))},
		{"a bare line", api.Record{Kind: api.KLine}, in(2, eight(1, 0), in(5, str(1, "")))},
		{"a line's trace", api.Record{Kind: api.KLine, Trace: [16]byte{1}}, in(2, eight(1, 0), in(5, str(1, "")), str(9, "\x01"+string(make([]byte, 15))))},
		{"a line's span", api.Record{Kind: api.KLine, Id: id, Level: 24}, in(2, eight(1, 0), varint(2, 24), in(5, str(1, "")), str(10, own))},
		{"a full span", fullSpan(), in(2, str(1, tr), str(2, own), str(4, string(parent[:])), str(5, "GET"), eight(7, 7), eight(8, 9), kv(9, "a", "x"), kv(9, "b", "y"))},
		{"a bare span", least(api.KSpan), in(2, str(1, tr), str(2, own), str(5, "GET"), eight(7, 0), eight(8, 0))},
	} {
		expectBytes(t, c.what, c.r.Kind, request(c.want), c.r)
		expectBytes(t, c.what+", twice", c.r.Kind, request(c.want, c.want), c.r, c.r)
	}
}

// P5.3: a kind that is none, a record of another kind: ahead of all else.
func TestEncodeKinds(t *testing.T) {
	for _, kind := range []int{0, 4, -1, math.MaxInt, math.MinInt} {
		expectRefused(t, "no kind", kind, api.ErrArg)
		r := fullLine()
		r.Kind = kind
		expectRefused(t, "no kind", kind, api.ErrArg, r)
		expectRefused(t, "a record of no kind", api.KLine, api.ErrArg, fullLine(), r)
	}
	wrong := changed(fullLine(), func(r *api.Record) { r.Text = "\xff" })
	expectRefused(t, "another kind", api.KPoint, api.ErrArg, fullLine())
	expectRefused(t, "another kind behind", api.KLine, api.ErrArg, wrong, fullPoint())
	many := slices.Repeat([]api.Record{wrong}, api.MaxRecords)
	expectRefused(t, "another kind behind many", api.KLine, api.ErrArg, append(many, fullSpan())...)
}

// P5.3: MaxRecords, and one more, which is told ahead of what Right tells.
func TestEncodeMaxRecords(t *testing.T) {
	for _, r := range []api.Record{least(api.KPoint), least(api.KLine), least(api.KSpan)} {
		many := slices.Repeat([]api.Record{r}, api.MaxRecords+1)
		b, e := Encode(r.Kind, many[:api.MaxRecords]...)
		l, f := Decode(r.Kind, b)
		if e != api.OK || f != api.OK || !sameList(l, many[:api.MaxRecords]) {
			t.Errorf("MaxRecords of kind %d: %d, %d", r.Kind, e, f)
		}
		expectRefused(t, "one more", r.Kind, api.ErrFull, many...)
		many[0].T = -1
		expectRefused(t, "one more, one wrong", r.Kind, api.ErrFull, many...)
		expectRefused(t, "one wrong", r.Kind, api.ErrArg, many[:api.MaxRecords]...)
	}
}

// P5.3: the first record that can not be tells the error; Right's of all are ahead of values that are not whole.
func TestEncodeRight(t *testing.T) {
	for _, of := range []api.Record{fullPoint(), fullLine(), fullSpan()} {
		for _, group := range wrongs(of.Kind) {
			for _, w := range group {
				bad := changed(of, w.do)
				expectRefused(t, "alone", of.Kind, w.e, bad)
				expectRefused(t, "behind a right one", of.Kind, w.e, of, bad)
				old := changed(of, func(r *api.Record) { r.T = -1 })
				expectRefused(t, "behind another", of.Kind, api.ErrArg, old, bad)
				expectRefused(t, "ahead of another", of.Kind, w.e, bad, old)
			}
		}
	}
	half := changed(fullPoint(), func(r *api.Record) { r.V = api.One / 2 })
	for _, v := range []int64{1, -1, api.One - 1, api.One + 1, -api.One / 2, math.MaxInt64, -math.MaxInt64} {
		r := changed(fullPoint(), func(r *api.Record) { r.V = v })
		expectRefused(t, "not whole", api.KPoint, api.ErrValue, r)
		expectRefused(t, "not whole, behind", api.KPoint, api.ErrValue, fullPoint(), r)
	}
	old := changed(fullPoint(), func(r *api.Record) { r.T = -1 })
	expectRefused(t, "not whole, ahead of what can not be", api.KPoint, api.ErrArg, half, old)
}

// P5.3: a message of MaxFile bytes, and one more: wire.Write's error, behind all others.
func TestEncodeMaxFile(t *testing.T) {
	long := api.Record{Kind: api.KLine, Text: strings.Repeat("x", api.MaxText)}
	l := slices.Repeat([]api.Record{long}, 16)
	l[15].Text = strings.Repeat("x", api.MaxText/2)
	b, e := Encode(api.KLine, l...)
	if e != api.OK {
		t.Fatalf("Encode = %d", e)
	}
	l[15].Text += strings.Repeat("x", api.MaxFile-len(b))
	b, e = Encode(api.KLine, l...)
	if e != api.OK || len(b) != api.MaxFile {
		t.Fatalf("Encode of MaxFile bytes = %d bytes, %d", len(b), e)
	}
	if g, e := Decode(api.KLine, b); e != api.OK || !sameList(g, l) {
		t.Errorf("Decode of MaxFile bytes = %d records, %d", len(g), e)
	}
	l[15].Text += "x"
	expectRefused(t, "one more", api.KLine, api.ErrSize, l...)
	// The items themselves have no more than MaxFile bytes for some more: it is what is about them that is too long.
	for range 12 {
		l[15].Text += "x"
		expectRefused(t, "some more", api.KLine, api.ErrSize, l...)
	}
	expectRefused(t, "a wrong one behind", api.KLine, api.ErrForm, append(l, api.Record{Kind: api.KLine, V: 1})...)
	points := make([]api.Record, api.MaxRecords)
	for i := range points {
		points[i] = api.Record{Kind: api.KPoint, Name: strings.Repeat("n", 256)}
		for _, a := range manyAttrs(4) {
			a.Value = strings.Repeat("v", 256)
			points[i].Attrs = append(points[i].Attrs, a)
		}
	}
	expectRefused(t, "many points", api.KPoint, api.ErrSize, points...)
	points[999].V = 1
	expectRefused(t, "the last one not whole", api.KPoint, api.ErrValue, points...)
}

// P5.5, P9: what is written is read again as it was, of each kind; and written again it has the same bytes.
func TestEncodeAndBack(t *testing.T) {
	r := rand.New(rand.NewSource(1))
	for i := range 9000 {
		kind := 1 + i%3
		var l []api.Record
		for range r.Intn(5) {
			l = append(l, anyRecord(r, kind, true))
		}
		was := slices.Clone(l)
		b, e := Encode(kind, l...)
		g, f := Decode(kind, b)
		if e != api.OK || f != api.OK || !sameList(g, l) {
			t.Fatalf("Encode(%+v) = % x, %d, Decode = %+v, %d", l, b, e, g, f)
		}
		if again, _ := Encode(kind, g...); !bytes.Equal(again, b) {
			t.Fatalf("% x, written again % x", b, again)
		}
		if !sameList(was, l) {
			t.Fatal("Encode has changed its records")
		}
	}
}

// Rule 4: an answer is new memory.
func TestEncodeIsNewMemory(t *testing.T) {
	b, _ := Encode(api.KLine, fullLine())
	for i := range b {
		b[i] = 0
	}
	if c, _ := Encode(api.KLine, fullLine()); bytes.Equal(b, c) {
		t.Error("what is written into an answer is seen")
	}
}
