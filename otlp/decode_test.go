package otlp

import (
	"bytes"
	"math"
	"math/rand"
	"strings"
	"testing"

	"belfry/api"
	"belfry/wire"
)

// kv is a KeyValue whose value is a text.
func kv(num int, key, value string) wire.Field {
	return in(num, str(1, key), in(2, str(1, value)))
}

// float is a point's value as a float.
func float(v float64) wire.Field {
	return eight(4, math.Float64bits(v))
}

// request is a message of one part, with one list of items and no Resource.
func request(items ...wire.Field) []byte {
	return msg(in(1, in(2, items...)))
}

// one is a request of one record with these fields, and perhaps those of a Resource.
func one(kind int, resource []wire.Field, l ...wire.Field) []byte {
	item := in(2, l...)
	if kind == api.KPoint {
		item = in(2, str(1, "up"), in(5, in(1, l...)))
	}
	return msg(in(1, in(1, resource...), in(2, item)))
}

func expect(t *testing.T, what string, kind int, b []byte, we api.Errno, want ...api.Record) {
	t.Helper()
	was := bytes.Clone(b)
	if l, e := Decode(kind, b); e != we || !sameList(l, want) {
		t.Errorf("%s: Decode(%d, % x) = %+v, %d, want %+v, %d", what, kind, b, l, e, want, we)
	}
	if !bytes.Equal(b, was) {
		t.Errorf("%s: Decode has changed its bytes", what)
	}
}

// The chapter's example.
func TestDecodeExample(t *testing.T) {
	b := []byte("\x0a\x13\x12\x11\x12\x0f\x09\x05\x00\x00\x00\x00\x00\x00\x00\x2a\x04\x0a\x02hi")
	expect(t, "a line", api.KLine, b, api.OK, api.Record{Kind: api.KLine, T: 5, Text: "hi"})
	expect(t, "cut off", api.KLine, []byte{10}, api.ErrShort)
	expect(t, "no kind", 9, nil, api.ErrArg)
	for kind := api.KPoint; kind <= api.KSpan; kind++ {
		expect(t, "nothing", kind, nil, api.OK)
		expect(t, "nothing", kind, []byte{}, api.OK)
	}
}

// P5.2: a kind that is none is told ahead of all faults.
func TestDecodeKind(t *testing.T) {
	for _, kind := range []int{0, 4, -1, math.MaxInt, math.MinInt} {
		expect(t, "no kind", kind, request(), api.ErrArg)
		expect(t, "no kind", kind, []byte{0}, api.ErrArg)
	}
}

// need is what a record of a kind must have beside its time.
func need(kind int) []wire.Field {
	switch kind {
	case api.KPoint:
		return []wire.Field{eight(6, 2)}
	case api.KLine:
		return []wire.Field{in(5, str(1, "hi"))}
	}
	return []wire.Field{str(1, string(trace[:])), str(2, string(id[:])), str(5, "GET")}
}

// least is what need says.
func least(kind int) api.Record {
	switch kind {
	case api.KPoint:
		return api.Record{Kind: kind, Name: "up", V: 2 * api.One}
	case api.KLine:
		return api.Record{Kind: kind, Text: "hi"}
	}
	return api.Record{Kind: kind, Trace: trace, Id: id, Name: "GET"}
}

// P5.2: each field of each kind, zero and not, and several times: the last one counts.
func TestDecodeFields(t *testing.T) {
	tr, own := string(trace[:]), string(id[:])
	for _, c := range []struct {
		kind int
		l    []wire.Field
		do   change
	}{
		{api.KPoint, nil, func(r *api.Record) {}},
		{api.KPoint, []wire.Field{eight(3, 0)}, func(r *api.Record) {}},
		{api.KPoint, []wire.Field{eight(3, 5)}, func(r *api.Record) { r.T = 5 }},
		{api.KPoint, []wire.Field{eight(3, api.MaxTime)}, func(r *api.Record) { r.T = api.MaxTime }},
		{api.KPoint, []wire.Field{eight(3, 5), eight(3, 6)}, func(r *api.Record) { r.T = 6 }},
		{api.KPoint, []wire.Field{eight(6, 0)}, func(r *api.Record) { r.V = 0 }},
		{api.KPoint, []wire.Field{eight(6, math.MaxUint64)}, func(r *api.Record) { r.V = -api.One }},
		{api.KPoint, []wire.Field{eight(6, 1<<63)}, func(r *api.Record) { r.V = -math.MaxInt64 }},
		{api.KPoint, []wire.Field{eight(6, math.MaxInt64)}, func(r *api.Record) { r.V = math.MaxInt64 }},
		{api.KPoint, []wire.Field{float(-1.5)}, func(r *api.Record) { r.V = -1500000 }},
		{api.KPoint, []wire.Field{float(0.1)}, func(r *api.Record) { r.V = 100000 }},
		{api.KPoint, []wire.Field{float(math.Inf(1))}, func(r *api.Record) { r.V = math.MaxInt64 }},
		{api.KPoint, []wire.Field{float(math.Inf(-1))}, func(r *api.Record) { r.V = -math.MaxInt64 }},
		{api.KPoint, []wire.Field{float(1.5), eight(6, 7)}, func(r *api.Record) { r.V = 7 * api.One }},
		{api.KPoint, []wire.Field{eight(6, 7), float(1.5)}, func(r *api.Record) { r.V = 1500000 }},
		{api.KPoint, []wire.Field{kv(7, "b", "x"), kv(7, "a", "y")}, func(r *api.Record) { r.Attrs = attrs("a", "y", "b", "x") }},
		{api.KLine, nil, func(r *api.Record) {}},
		{api.KLine, []wire.Field{eight(1, api.MaxTime)}, func(r *api.Record) { r.T = api.MaxTime }},
		{api.KLine, []wire.Field{eight(1, 5), eight(1, 0)}, func(r *api.Record) { r.T = 0 }},
		{api.KLine, []wire.Field{varint(2, 24)}, func(r *api.Record) { r.Level = 24 }},
		{api.KLine, []wire.Field{varint(2, 24), varint(2, 1)}, func(r *api.Record) { r.Level = 1 }},
		{api.KLine, []wire.Field{in(5, str(1, ""))}, func(r *api.Record) { r.Text = "" }},
		{api.KLine, []wire.Field{in(5, str(1, "a"), str(1, "b"))}, func(r *api.Record) { r.Text = "b" }},
		{api.KLine, []wire.Field{in(5, str(1, strings.Repeat("x", api.MaxText)))}, func(r *api.Record) { r.Text = strings.Repeat("x", api.MaxText) }},
		{api.KLine, []wire.Field{in(5), in(5, str(1, "b"))}, func(r *api.Record) { r.Text = "b" }},
		{api.KLine, []wire.Field{kv(6, "a", "y")}, func(r *api.Record) { r.Attrs = attrs("a", "y") }},
		{api.KLine, []wire.Field{str(9, tr)}, func(r *api.Record) { r.Trace = trace }},
		{api.KLine, []wire.Field{str(9, "")}, func(r *api.Record) {}},
		{api.KLine, []wire.Field{str(9, tr), str(9, "")}, func(r *api.Record) {}},
		{api.KLine, []wire.Field{str(9, string(make([]byte, 16)))}, func(r *api.Record) {}},
		{api.KLine, []wire.Field{str(10, own)}, func(r *api.Record) { r.Id = id }},
		{api.KLine, []wire.Field{str(10, own), str(10, "")}, func(r *api.Record) {}},
		{api.KSpan, nil, func(r *api.Record) {}},
		{api.KSpan, []wire.Field{str(4, "")}, func(r *api.Record) {}},
		{api.KSpan, []wire.Field{str(4, string(parent[:]))}, func(r *api.Record) { r.Parent = parent }},
		{api.KSpan, []wire.Field{str(4, string(parent[:])), str(4, "")}, func(r *api.Record) {}},
		{api.KSpan, []wire.Field{str(1, strings.Repeat("t", 16))}, func(r *api.Record) { r.Trace = [16]byte([]byte(strings.Repeat("t", 16))) }},
		{api.KSpan, []wire.Field{str(2, "idididid")}, func(r *api.Record) { r.Id = [8]byte([]byte("idididid")) }},
		{api.KSpan, []wire.Field{str(5, "PUT")}, func(r *api.Record) { r.Name = "PUT" }},
		{api.KSpan, []wire.Field{eight(8, 9)}, func(r *api.Record) { r.To = 9 }},
		{api.KSpan, []wire.Field{eight(7, 9), eight(8, 9)}, func(r *api.Record) { r.T, r.To = 9, 9 }},
		{api.KSpan, []wire.Field{eight(8, api.MaxTime), eight(7, api.MaxTime)}, func(r *api.Record) { r.T, r.To = api.MaxTime, api.MaxTime }},
		{api.KSpan, []wire.Field{kv(9, "a", "y")}, func(r *api.Record) { r.Attrs = attrs("a", "y") }},
	} {
		b := one(c.kind, nil, append(need(c.kind), c.l...)...)
		expect(t, "a field", c.kind, b, api.OK, changed(least(c.kind), c.do))
	}
}

// P5.2: each fault of a record's own fields; also of one behind which a right one stands.
func TestDecodeFieldFaults(t *testing.T) {
	tr, own := string(trace[:]), string(id[:])
	for _, c := range []struct {
		kind int
		e    api.Errno
		bad  wire.Field
		good wire.Field
	}{
		{api.KPoint, api.ErrOtlp, varint(3, 5), eight(3, 5)},
		{api.KPoint, api.ErrOtlp, str(3, "12345678"), eight(3, 5)},
		{api.KPoint, api.ErrArg, eight(3, api.MaxTime+1), eight(3, 5)},
		{api.KPoint, api.ErrArg, eight(3, math.MaxUint64), eight(3, 5)},
		{api.KPoint, api.ErrOtlp, four(4, 5), float(1)},
		{api.KPoint, api.ErrArg, float(math.NaN()), float(1)},
		{api.KPoint, api.ErrArg, eight(4, 0xfff0000000000001), eight(6, 5)},
		{api.KPoint, api.ErrOtlp, varint(6, 5), eight(6, 5)},
		{api.KPoint, api.ErrOtlp, varint(7, 5), kv(7, "a", "x")},
		{api.KPoint, api.ErrShort, str(7, "\x0a"), kv(7, "a", "x")},
		{api.KLine, api.ErrOtlp, four(1, 5), eight(1, 5)},
		{api.KLine, api.ErrArg, eight(1, api.MaxTime+1), eight(1, 5)},
		{api.KLine, api.ErrOtlp, eight(2, 5), varint(2, 5)},
		{api.KLine, api.ErrArg, varint(2, 25), varint(2, 5)},
		{api.KLine, api.ErrArg, varint(2, 1<<32), varint(2, 5)},
		{api.KLine, api.ErrArg, varint(2, math.MaxUint64), varint(2, 5)},
		{api.KLine, api.ErrOtlp, varint(5, 5), in(5, str(1, "x"))},
		{api.KLine, api.ErrOtlp, in(5, varint(1, 5)), in(5, str(1, "x"))},
		{api.KLine, api.ErrWire, str(5, "\x00"), in(5, str(1, "x"))},
		{api.KLine, api.ErrOtlp, varint(6, 5), kv(6, "a", "x")},
		{api.KLine, api.ErrOtlp, eight(9, 5), str(9, tr)},
		{api.KLine, api.ErrOtlp, str(9, tr[1:]), str(9, tr)},
		{api.KLine, api.ErrOtlp, str(9, tr+"x"), str(9, "")},
		{api.KLine, api.ErrOtlp, str(9, "x"), str(9, tr)},
		{api.KLine, api.ErrOtlp, varint(10, 0), str(10, own)},
		{api.KLine, api.ErrOtlp, str(10, own[1:]), str(10, own)},
		{api.KLine, api.ErrOtlp, str(10, own+"x"), str(10, own)},
		{api.KSpan, api.ErrOtlp, varint(1, 5), str(1, tr)},
		{api.KSpan, api.ErrOtlp, str(1, ""), str(1, tr)},
		{api.KSpan, api.ErrOtlp, str(1, tr[1:]), str(1, tr)},
		{api.KSpan, api.ErrOtlp, str(1, tr+"x"), str(1, tr)},
		{api.KSpan, api.ErrOtlp, varint(2, 5), str(2, own)},
		{api.KSpan, api.ErrOtlp, str(2, ""), str(2, own)},
		{api.KSpan, api.ErrOtlp, str(2, own[1:]), str(2, own)},
		{api.KSpan, api.ErrOtlp, str(2, own+"x"), str(2, own)},
		{api.KSpan, api.ErrOtlp, varint(4, 5), str(4, "")},
		{api.KSpan, api.ErrOtlp, str(4, own[1:]), str(4, own)},
		{api.KSpan, api.ErrOtlp, str(4, own+"x"), str(4, own)},
		{api.KSpan, api.ErrOtlp, varint(5, 5), str(5, "x")},
		{api.KSpan, api.ErrOtlp, varint(7, 0), eight(7, 0)},
		{api.KSpan, api.ErrArg, eight(7, api.MaxTime+1), eight(7, 0)},
		{api.KSpan, api.ErrOtlp, varint(8, 5), eight(8, 5)},
		{api.KSpan, api.ErrArg, eight(8, api.MaxTime+1), eight(8, 5)},
		{api.KSpan, api.ErrOtlp, four(9, 5), kv(9, "a", "x")},
	} {
		all := append(need(c.kind), c.good)
		if _, e := Decode(c.kind, one(c.kind, nil, all...)); e != api.OK {
			t.Errorf("kind %d, %+v: Decode = %d", c.kind, c.good, e)
		}
		expect(t, "a fault behind", c.kind, one(c.kind, nil, append(all, c.bad)...), c.e)
		expect(t, "a fault ahead", c.kind, one(c.kind, nil, append([]wire.Field{c.bad}, all...)...), c.e)
	}
}

// P5.2: what a record must have, and what Right refuses.
func TestDecodeMissing(t *testing.T) {
	tr, own := string(trace[:]), string(id[:])
	for _, c := range []struct {
		kind int
		e    api.Errno
		l    []wire.Field
	}{
		{api.KPoint, api.ErrOtlp, []wire.Field{}},
		{api.KPoint, api.ErrOtlp, []wire.Field{eight(3, 5), kv(7, "", "")}},
		{api.KLine, api.ErrOtlp, []wire.Field{}},
		{api.KLine, api.ErrOtlp, []wire.Field{eight(1, 5), kv(6, "1", "x")}},
		{api.KLine, api.ErrOtlp, []wire.Field{in(5)}},
		{api.KLine, api.ErrOtlp, []wire.Field{in(5, str(2, "x"))}},
		{api.KLine, api.ErrOtlp, []wire.Field{in(5, str(1, "x")), in(5)}},
		{api.KLine, api.ErrUtf, []wire.Field{in(5, str(1, "\xff"))}},
		{api.KLine, api.ErrSize, []wire.Field{in(5, str(1, strings.Repeat("x", api.MaxText+1)))}},
		{api.KSpan, api.ErrValue, []wire.Field{}},
		{api.KSpan, api.ErrValue, []wire.Field{str(1, tr), str(2, own)}},
		{api.KSpan, api.ErrValue, []wire.Field{str(1, tr), str(2, own), str(5, strings.Repeat("x", 257))}},
		{api.KSpan, api.ErrUtf, []wire.Field{str(1, tr), str(2, own), str(5, "\xff")}},
		{api.KSpan, api.ErrOtlp, []wire.Field{str(2, own), str(5, "x")}},
		{api.KSpan, api.ErrOtlp, []wire.Field{str(1, tr), str(5, "x")}},
		{api.KSpan, api.ErrOtlp, []wire.Field{str(1, string(make([]byte, 16))), str(2, own), str(5, "x")}},
		{api.KSpan, api.ErrOtlp, []wire.Field{str(1, tr), str(2, string(make([]byte, 8))), str(5, "x")}},
		{api.KSpan, api.ErrOld, []wire.Field{str(1, tr), str(2, own), str(5, "x"), eight(7, 5)}},
		{api.KSpan, api.ErrOld, []wire.Field{eight(7, 5), eight(8, 4)}},
	} {
		expect(t, "a record", c.kind, one(c.kind, nil, c.l...), c.e)
	}
	for _, name := range []struct {
		e api.Errno
		f wire.Field
	}{{api.ErrValue, str(1, "")}, {api.ErrValue, str(2, "x")}, {api.ErrUtf, str(1, "\xff")}, {api.ErrValue, str(1, strings.Repeat("x", 257))}, {api.ErrOtlp, varint(1, 5)}} {
		expect(t, "a metric's name", api.KPoint, request(in(2, name.f, in(5, in(1, eight(6, 1))))), name.e)
	}
}

// P5.2: a KeyValue's value of each type; the last one counts.
func TestDecodeValues(t *testing.T) {
	for _, c := range []struct {
		l    []wire.Field
		want string
	}{
		{[]wire.Field{str(1, "x")}, "x"},
		{[]wire.Field{str(1, "")}, ""},
		{[]wire.Field{varint(2, 0)}, "false"},
		{[]wire.Field{varint(2, 1)}, "true"},
		{[]wire.Field{varint(2, math.MaxUint64)}, "true"},
		{[]wire.Field{varint(3, 0)}, "0"},
		{[]wire.Field{varint(3, 150)}, "150"},
		{[]wire.Field{varint(3, math.MaxInt64)}, "9223372036854775807"},
		{[]wire.Field{varint(3, 1<<63)}, "-9223372036854775808"},
		{[]wire.Field{varint(3, math.MaxUint64)}, "-1"},
		{[]wire.Field{str(1, "x"), varint(2, 0)}, "false"},
		{[]wire.Field{varint(2, 0), varint(3, 5)}, "5"},
		{[]wire.Field{varint(3, 5), str(1, "x")}, "x"},
		{[]wire.Field{str(1, "x"), str(1, "")}, ""},
		{[]wire.Field{eight(4, 5), str(1, "x"), str(7, "y")}, "x"},
	} {
		var want []api.Attr
		if c.want != "" {
			want = attrs("a", c.want)
		}
		b := one(api.KLine, nil, in(5, str(1, "hi")), in(6, in(2, c.l...), str(1, "a")))
		expect(t, "own", api.KLine, b, api.OK, api.Record{Kind: api.KLine, Text: "hi", Attrs: want})
		b = one(api.KLine, []wire.Field{in(1, str(1, "b"), in(2), in(2, c.l...), str(1, "a"))}, in(5, str(1, "hi")))
		expect(t, "a Resource's", api.KLine, b, api.OK, api.Record{Kind: api.KLine, Text: "hi", Attrs: want})
	}
}

// P5.2: what can be wrong with a KeyValue, in a Resource and in a record.
func TestDecodeKeyValueFaults(t *testing.T) {
	long := strings.Repeat("x", 257)
	for _, c := range []struct {
		e api.Errno
		l []wire.Field
	}{
		{api.ErrOtlp, nil},
		{api.ErrOtlp, []wire.Field{str(1, "a")}},
		{api.ErrOtlp, []wire.Field{str(1, "a"), in(2)}},
		{api.ErrOtlp, []wire.Field{str(1, "a"), in(2, eight(4, 5))}},
		{api.ErrOtlp, []wire.Field{str(1, "a"), in(2, str(1, "x")), in(2)}},
		{api.ErrOtlp, []wire.Field{varint(1, 5), in(2, str(1, "x"))}},
		{api.ErrOtlp, []wire.Field{str(1, "a"), varint(2, 5)}},
		{api.ErrOtlp, []wire.Field{str(1, "a"), in(2, varint(1, 5)), in(2, str(1, "x"))}},
		{api.ErrOtlp, []wire.Field{str(1, "a"), in(2, str(2, "x"))}},
		{api.ErrOtlp, []wire.Field{str(1, "a"), in(2, eight(3, 5))}},
		{api.ErrShort, []wire.Field{str(1, "a"), str(2, "\x0a\x05")}},
		{api.ErrWire, []wire.Field{str(1, "a"), str(2, "\x0b"), in(2, str(1, "x"))}},
		{api.ErrKey, []wire.Field{in(2, str(1, "x"))}},
		{api.ErrKey, []wire.Field{str(1, "1"), in(2, str(1, "x"))}},
		{api.ErrKey, []wire.Field{str(1, "\xff"), in(2, str(1, "x"))}},
		{api.ErrKey, []wire.Field{str(1, strings.Repeat("k", api.MaxKey+1)), in(2, str(1, "x"))}},
		{api.ErrValue, []wire.Field{str(1, "a"), in(2, str(1, long))}},
		{api.ErrValue, []wire.Field{str(1, "a"), in(2, str(1, "\xff"))}},
	} {
		for kind, num := range map[int]int{api.KPoint: 7, api.KLine: 6, api.KSpan: 9} {
			expect(t, "own", kind, one(kind, nil, append(need(kind), in(num, c.l...))...), c.e)
			expect(t, "a Resource's", kind, one(kind, []wire.Field{in(1, c.l...)}, need(kind)...), c.e)
		}
	}
}

// P5.2, P5.8: attributes that stand twice and empty ones, in a Resource and in a record.
func TestDecodeAttributes(t *testing.T) {
	pairs := func(num int, l ...string) []wire.Field {
		var out []wire.Field
		for i := 0; i < len(l); i += 2 {
			out = append(out, kv(num, l[i], l[i+1]))
		}
		return out
	}
	type strs []string
	for _, c := range []struct{ resource, own, want strs }{
		{nil, nil, nil},
		{strs{"b", "1", "a", "2"}, nil, strs{"a", "2", "b", "1"}},
		{nil, strs{"b", "1", "a", "2"}, strs{"a", "2", "b", "1"}},
		{strs{"b", "1", "d", "2"}, strs{"c", "3", "a", "4"}, strs{"a", "4", "b", "1", "c", "3", "d", "2"}},
		{strs{"a", "1", "b", "2"}, strs{"a", "3"}, strs{"a", "3", "b", "2"}},
		{strs{"a", "1", "a", "2"}, nil, strs{"a", "2"}},
		{nil, strs{"a", "1", "a", "2"}, strs{"a", "2"}},
		{strs{"a", ""}, nil, nil},
		{nil, strs{"a", ""}, nil},
		{strs{"a", "1", "a", ""}, nil, nil},
		{nil, strs{"a", "1", "a", ""}, nil},
		{strs{"a", "1", "a", "", "a", "3"}, nil, strs{"a", "3"}},
		{nil, strs{"a", "", "a", "3"}, strs{"a", "3"}},
		{strs{"a", "1"}, strs{"a", ""}, strs{"a", "1"}},
		{strs{"a", "1"}, strs{"a", "2", "a", ""}, strs{"a", "1"}},
		{strs{"a", "1"}, strs{"a", "", "a", "2"}, strs{"a", "2"}},
		{strs{"a", ""}, strs{"a", "2"}, strs{"a", "2"}},
		// What can not be plays no part once it is taken away.
		{strs{"1", "x", "1", ""}, strs{"", "x", "", ""}, nil},
		{strs{"a", "\xff", "a", "2"}, nil, strs{"a", "2"}},
		{strs{"a", "\xff"}, strs{"a", "2"}, strs{"a", "2"}},
	} {
		for kind, num := range map[int]int{api.KPoint: 7, api.KLine: 6, api.KSpan: 9} {
			want := least(kind)
			want.Attrs = attrs(c.want...)
			expect(t, "attributes", kind, one(kind, pairs(1, c.resource...), append(need(kind), pairs(num, c.own...)...)...), api.OK, want)
		}
	}
}

// P5.2: attributes are asked of attr.Make in their order: the Resource's that are left, then the record's own, each one where it stood last.
func TestDecodeOrderOfAttributes(t *testing.T) {
	long := strings.Repeat("x", 257)
	for _, c := range []struct {
		e             api.Errno
		resource, own []wire.Field
	}{
		{api.ErrKey, []wire.Field{kv(1, "1", "x")}, []wire.Field{kv(6, "a", long)}},
		{api.ErrValue, []wire.Field{kv(1, "a", long)}, []wire.Field{kv(6, "1", "x")}},
		{api.ErrKey, []wire.Field{kv(1, "a", long)}, []wire.Field{kv(6, "1", "x"), kv(6, "a", long)}},
		{api.ErrValue, []wire.Field{kv(1, "1", "x"), kv(1, "a", long), kv(1, "1", "y")}, nil},
		{api.ErrValue, nil, []wire.Field{kv(6, "1", "x"), kv(6, "a", long), kv(6, "1", "y")}},
		{api.ErrValue, []wire.Field{kv(1, "1", "x")}, []wire.Field{kv(6, "a", long), kv(6, "1", "x")}},
		{api.ErrKey, []wire.Field{kv(1, "1", "x"), kv(1, "a", long)}, []wire.Field{kv(6, "1", "")}},
	} {
		expect(t, "two faults", api.KLine, one(api.KLine, c.resource, append(need(api.KLine), c.own...)...), c.e)
	}
}

// P5.2: MaxAttrs attributes of both together, and one more, which is told ahead of what they are.
func TestDecodeMaxAttrs(t *testing.T) {
	var resource, own []wire.Field
	for i, a := range manyAttrs(api.MaxAttrs) {
		if i < 9 {
			resource = append(resource, kv(1, a.Key, a.Value))
		} else {
			own = append(own, kv(6, a.Key, a.Value))
		}
	}
	want := least(api.KLine)
	want.Attrs = manyAttrs(api.MaxAttrs)
	body := need(api.KLine)
	expect(t, "MaxAttrs", api.KLine, one(api.KLine, resource, append(body, own...)...), api.OK, want)
	expect(t, "a known one more", api.KLine, one(api.KLine, resource, append(append(body, own...), kv(6, "ka", "v"))...), api.OK, want)
	expect(t, "an empty one more", api.KLine, one(api.KLine, resource, append(append(body, own...), kv(6, "z", ""))...), api.OK, want)
	expect(t, "one more", api.KLine, one(api.KLine, resource, append(append(body, own...), kv(6, "z", "v"))...), api.ErrFull)
	expect(t, "one more that is none", api.KLine, one(api.KLine, append(resource, kv(1, "1", "\xff")), append(body, own...)...), api.ErrFull)
}

// P5.2: of a part all Resources are read ahead of the others, and the last one counts; each part has its own.
func TestDecodeResources(t *testing.T) {
	line := in(2, in(2, in(5, str(1, "hi"))))
	with := func(l ...string) api.Record { return api.Record{Kind: api.KLine, Text: "hi", Attrs: attrs(l...)} }
	expect(t, "behind", api.KLine, msg(in(1, line, in(1, kv(1, "a", "x")))), api.OK, with("a", "x"))
	expect(t, "two", api.KLine, msg(in(1, in(1, kv(1, "a", "x"), kv(1, "b", "y")), line, in(1, kv(1, "c", "z")))), api.OK, with("c", "z"))
	expect(t, "an empty one", api.KLine, msg(in(1, in(1, kv(1, "a", "x")), in(1), line)), api.OK, with())
	expect(t, "parts", api.KLine, msg(in(1, in(1, kv(1, "a", "x")), line), in(1, line), in(1, in(1, kv(1, "b", "y")), line, line)), api.OK,
		with("a", "x"), with(), with("b", "y"), with("b", "y"))
	bad := in(2, in(2, varint(5, 1)))
	expect(t, "a fault of the first one", api.KLine, msg(in(1, in(1, str(1, "\x0a")), in(1), line)), api.ErrShort)
	expect(t, "a fault behind a line's", api.KLine, msg(in(1, bad, in(1, str(1, "\x00")))), api.ErrWire)
	expect(t, "a type behind a line's", api.KLine, msg(in(1, str(2, "\x0a"), varint(1, 5))), api.ErrOtlp)
	expect(t, "a line's ahead of the next part's", api.KLine, msg(in(1, bad), in(1, in(1, str(1, "\x00")))), api.ErrOtlp)
}

// P5.2: known fields on the way to the records, of another type; and bytes that are no message at each level.
func TestDecodeLevels(t *testing.T) {
	for kind := api.KPoint; kind <= api.KSpan; kind++ {
		for _, f := range []wire.Field{varint(1, 5), eight(1, 5), four(1, 5)} {
			expect(t, "a request's part", kind, msg(f), api.ErrOtlp)
			expect(t, "a Resource", kind, msg(in(1, f)), api.ErrOtlp)
			expect(t, "a Resource's attribute", kind, msg(in(1, in(1, f))), api.ErrOtlp)
			f.Num = 2
			expect(t, "a list", kind, msg(in(1, f)), api.ErrOtlp)
			expect(t, "an item", kind, msg(in(1, in(2, f))), api.ErrOtlp)
		}
		for bad, e := range map[string]api.Errno{"\x0a": api.ErrShort, "\x00": api.ErrWire, strings.Repeat("\x78\x01", api.MaxFields+1): api.ErrFull} {
			expect(t, "a request", kind, []byte(bad), e)
			expect(t, "a request's part", kind, msg(str(1, bad)), e)
			expect(t, "a Resource", kind, msg(in(1, str(1, bad))), e)
			expect(t, "a Resource's attribute", kind, msg(in(1, in(1, str(1, bad)))), e)
			expect(t, "a list", kind, msg(in(1, str(2, bad))), e)
			expect(t, "an item", kind, request(str(2, bad)), e)
		}
		expect(t, "too long", kind, make([]byte, api.MaxFile+1), api.ErrSize)
	}
}

// P5.2: a metric's gauges stand ahead of its sums; of several the last one is read; its fields are looked at in their order.
func TestDecodeMetrics(t *testing.T) {
	at := func(n uint64) wire.Field { return in(1, eight(3, n), eight(6, n)) }
	p := func(n int64) api.Record { return api.Record{Kind: api.KPoint, Name: "up", T: n, V: n * api.One} }
	short, wrong, nan := str(1, "\x0a"), str(1, "\x00"), in(1, float(math.NaN()))
	for _, c := range []struct {
		what string
		l    []wire.Field
		e    api.Errno
		want []api.Record
	}{
		{"nothing", nil, api.OK, nil},
		{"a name alone", []wire.Field{str(1, "\xff")}, api.OK, nil},
		{"a gauge", []wire.Field{str(1, "up"), in(5, at(1), at(2))}, api.OK, []api.Record{p(1), p(2)}},
		{"a sum", []wire.Field{str(1, "up"), in(7, at(1), at(2))}, api.OK, []api.Record{p(1), p(2)}},
		{"a name behind", []wire.Field{in(5, at(1)), str(1, "up")}, api.OK, []api.Record{p(1)}},
		{"two names", []wire.Field{str(1, "x"), in(5, at(1)), str(1, "up")}, api.OK, []api.Record{p(1)}},
		{"a sum ahead of a gauge", []wire.Field{in(7, at(1)), str(1, "up"), in(5, at(2))}, api.OK, []api.Record{p(2), p(1)}},
		{"two gauges", []wire.Field{in(5, at(1)), str(1, "up"), in(5, at(2))}, api.OK, []api.Record{p(2)}},
		{"two sums", []wire.Field{in(7, at(1)), str(1, "up"), in(7, at(2))}, api.OK, []api.Record{p(2)}},
		{"an empty gauge behind", []wire.Field{in(5, at(1)), str(1, "up"), in(5)}, api.OK, nil},
		{"a wrong gauge ahead of a right one", []wire.Field{in(5, nan), str(5, "\x00"), str(1, "up"), in(5, at(2))}, api.OK, []api.Record{p(2)}},
		{"a wrong sum ahead of a right one", []wire.Field{str(7, "\x0a"), str(1, "up"), in(7, at(2))}, api.OK, []api.Record{p(2)}},
		{"a wrong gauge behind", []wire.Field{str(1, "up"), in(5, at(2)), str(5, "\x0a")}, api.ErrShort, nil},
		{"a gauge's type, not the last", []wire.Field{str(1, "up"), varint(5, 1), in(5, at(2))}, api.ErrOtlp, nil},
		{"a sum's type, not the last", []wire.Field{str(1, "up"), varint(7, 1), in(7, at(2))}, api.ErrOtlp, nil},
		{"a name's type, not the last", []wire.Field{varint(1, 1), str(1, "up")}, api.ErrOtlp, nil},
		{"types ahead of what is in them", []wire.Field{str(1, "up"), in(5, nan), varint(7, 1)}, api.ErrOtlp, nil},
		{"the gauge ahead of the sum", []wire.Field{in(7, short), str(1, "up"), in(5, wrong)}, api.ErrWire, nil},
		{"the sum behind the gauge", []wire.Field{in(7, short), str(1, "up"), in(5, at(1))}, api.ErrShort, nil},
		{"a point's type", []wire.Field{str(1, "up"), in(5, varint(1, 1))}, api.ErrOtlp, nil},
		{"a sum's point's type", []wire.Field{str(1, "up"), in(7, varint(1, 1))}, api.ErrOtlp, nil},
		{"the name's fault at the point", []wire.Field{str(1, ""), in(5, in(1, eight(6, 1)), nan)}, api.ErrValue, nil},
		{"the point ahead of the name's fault", []wire.Field{str(1, ""), in(5, nan)}, api.ErrArg, nil},
	} {
		expect(t, c.what, api.KPoint, request(in(2, c.l...)), c.e, c.want...)
	}
}

// P5.2: the first fault as the message is read is told: from the left, depth first, a record's own ahead of the next one's.
func TestDecodeFirstFault(t *testing.T) {
	good := in(2, in(5, str(1, "hi")))
	old := in(2, in(5, str(1, "\xff")))
	for _, c := range []struct {
		what string
		e    api.Errno
		b    []byte
	}{
		{"a field ahead of another", api.ErrArg, request(in(2, varint(2, 25), eight(9, 5)))},
		{"the other way round", api.ErrOtlp, request(in(2, eight(9, 5), varint(2, 25)))},
		{"within a field, ahead of the next", api.ErrShort, request(in(2, str(6, "\x0a"), varint(2, 25)))},
		{"bytes that are no message ahead of what is in them", api.ErrShort, request(str(2, string(msg(varint(2, 25)))+"\x0a"))},
		{"a level ahead of no text", api.ErrArg, request(in(2, varint(2, 25)))},
		{"no text ahead of a wrong attribute", api.ErrOtlp, request(in(2, kv(6, "1", "x")))},
		{"an attribute ahead of what Right tells", api.ErrKey, request(in(2, in(5, str(1, "\xff")), kv(6, "1", "x")))},
		{"Right ahead of the next record", api.ErrUtf, request(good, old, in(2, varint(2, 25)))},
		{"the next record's fields ahead of Right behind it", api.ErrArg, request(good, in(2, varint(2, 25)), old)},
		{"a record ahead of the next part's type", api.ErrUtf, msg(in(1, in(2, old)), varint(1, 5))},
		{"the request's bytes ahead of all", api.ErrShort, append(msg(in(1, in(2, old))), 0x0a)},
	} {
		expect(t, c.what, api.KLine, c.b, c.e)
	}
}

// P5.2: MaxRecords records, and one more: what is wrong with its fields and its attributes is told ahead of that, what Right tells behind it.
func TestDecodeMaxRecords(t *testing.T) {
	for kind := api.KPoint; kind <= api.KSpan; kind++ {
		item := in(2, need(kind)...)
		if kind == api.KPoint {
			item = in(2, str(1, "up"), in(5, in(1, need(kind)...)))
		}
		var half []wire.Field
		for range api.MaxRecords / 2 {
			half = append(half, item)
		}
		full := msg(in(1, in(2, half...)), in(1, in(2, half...)))
		l, e := Decode(kind, full)
		if e != api.OK || len(l) != api.MaxRecords || !Same(l[0], least(kind)) || !Same(l[api.MaxRecords-1], least(kind)) {
			t.Fatalf("MaxRecords of kind %d: %d, %d", kind, len(l), e)
		}
		expect(t, "one more", kind, joinBytes(full, request(item)), api.ErrFull)
		expect(t, "an empty part more", kind, joinBytes(full, request()), api.OK, l...)
	}
	var lines []wire.Field
	for range api.MaxRecords {
		lines = append(lines, in(2, need(api.KLine)...))
	}
	for _, c := range []struct {
		e    api.Errno
		more wire.Field
	}{
		{api.ErrArg, in(2, varint(2, 25), in(5, str(1, "hi")))},
		{api.ErrOtlp, in(2)},
		{api.ErrKey, in(2, in(5, str(1, "\xff")), kv(6, "1", "x"))},
		{api.ErrFull, in(2, in(5, str(1, "\xff")))},
	} {
		expect(t, "one more", api.KLine, request(append(lines, c.more)...), c.e)
	}
}

// scattered puts fields that are not known between all fields of a message, and into the messages within it, as deep as a tree of known fields says.
type known map[int]known

func scattered(r *rand.Rand, b []byte, k known) []byte {
	l, _, _ := wire.Read(b)
	var out []wire.Field
	some := func() {
		for range r.Intn(3) {
			num := 100 + r.Intn(1000)
			out = append(out, []wire.Field{varint(num, r.Uint64()), eight(num, r.Uint64()), four(num, 7), str(num, "\x0a")}[r.Intn(4)])
		}
	}
	some()
	for _, f := range l {
		if within, ok := k[f.Num]; ok && f.Type == wire.Bytes {
			f.B = scattered(r, f.B, within)
		}
		out = append(out, f)
		some()
	}
	return msg(out...)
}

// P5.6: fields that are not known change nothing, at every level.
func TestDecodeUnknown(t *testing.T) {
	r := rand.New(rand.NewSource(1))
	pair := known{2: {}}
	trees := map[int]known{
		api.KPoint: {1: {1: {1: pair}, 2: {2: {5: {1: {7: pair}}, 7: {1: {7: pair}}}}}},
		api.KLine:  {1: {1: {1: pair}, 2: {2: {5: {}, 6: pair}}}},
		api.KSpan:  {1: {1: {1: pair}, 2: {2: {9: pair}}}},
	}
	for i := range 3000 {
		kind := 1 + i%3
		m := maker{r, 1000000}
		b := m.request(kind)
		l, e := Decode(kind, b)
		if g, f := Decode(kind, scattered(r, b, trees[kind])); f != e || !sameList(l, g) {
			t.Fatalf("Decode(%d, % x) = %+v, %d, with unknown fields %+v, %d", kind, b, l, e, g, f)
		}
	}
	for kind, nums := range map[int][]int{api.KPoint: {1, 2, 5, 8, 9, 10, 11}, api.KLine: {3, 4, 7, 8, 11, 12}, api.KSpan: {3, 6, 10, 11, 12, 13, 14, 15, 16}} {
		for _, num := range nums {
			expect(t, "a field next to a known one", kind, one(kind, nil, append(need(kind), varint(num, 5), str(num, "\x0a"))...), api.OK, least(kind))
		}
	}
	expect(t, "next to a part", api.KLine, msg(str(2, "\x0a"), varint(3, 1)), api.OK)
	expect(t, "next to a list", api.KLine, msg(in(1, str(3, "\x0a"), varint(4, 1))), api.OK)
	expect(t, "next to an item", api.KLine, msg(in(1, in(2, str(1, "\x0a"), varint(1, 1), varint(3, 1)))), api.OK)
	expect(t, "next to a gauge", api.KPoint, request(in(2, varint(2, 1), varint(3, 1), varint(4, 1), varint(6, 1), varint(8, 1), varint(9, 1))), api.OK)
	expect(t, "next to a point", api.KPoint, request(in(2, in(5, varint(2, 1)), in(7, varint(2, 1), varint(3, 1)))), api.OK)
}

// P5.6: two messages one behind the other are read as all; the first one's fault is told.
func TestDecodeBehind(t *testing.T) {
	r := rand.New(rand.NewSource(2))
	both := 0
	for i := range 3000 {
		m := maker{r, []int{100, 100000}[i%2]}
		kind := 1 + r.Intn(3)
		a, b := m.request(kind), m.request(kind)
		x, e := Decode(kind, a)
		y, f := Decode(kind, b)
		l, g := Decode(kind, joinBytes(a, b))
		if e != api.OK || f != api.OK {
			first := e
			if e == api.OK {
				first = f
			}
			if g != first || len(l) != 0 {
				t.Fatalf("errors %d and %d, of both %d", e, f, g)
			}
			continue
		}
		both++
		if g != api.OK || !sameList(l, append(x, y...)) {
			t.Fatalf("of both %+v, %d, want %+v and %+v", l, g, x, y)
		}
	}
	if both < 500 {
		t.Errorf("only %d pairs are right", both)
	}
}

// Rules 4 and 5: what is answered is new memory, each record for itself.
func TestDecodeIsNewMemory(t *testing.T) {
	line := in(2, in(5, str(1, "hi")))
	b := msg(in(1, in(1, kv(1, "a", "x"), kv(1, "b", "y")), in(2, line, line)))
	l, _ := Decode(api.KLine, b)
	l[0].Attrs[0].Value = "z"
	l[0].Attrs = append(l[0].Attrs[:1], api.Attr{Key: "c"})
	want := api.Record{Kind: api.KLine, Text: "hi", Attrs: attrs("a", "x", "b", "y")}
	if !Same(l[1], want) {
		t.Errorf("what is written into a record is seen in another: %+v", l[1])
	}
	for i := range b {
		b[i] = 0
	}
	if !Same(l[1], want) {
		t.Errorf("bytes that were handed in are kept: %+v", l[1])
	}
}

// P1: any bytes: Decode ends, and beside an error there is nothing.
func TestDecodeAnyBytes(t *testing.T) {
	r := rand.New(rand.NewSource(3))
	for range 100000 {
		b := make([]byte, r.Intn(40))
		for i := range b {
			b[i] = byte(r.Intn(256)) >> r.Intn(7)
		}
		kind := 1 + r.Intn(3)
		l, e := Decode(kind, b)
		if want, we := modelDecode(kind, b); e != we || !sameList(l, want) {
			t.Fatalf("Decode(%d, % x) = %+v, %d, want %+v, %d", kind, b, l, e, want, we)
		}
	}
}
