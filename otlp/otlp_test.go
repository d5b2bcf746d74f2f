package otlp

import (
	"bytes"
	"math"
	"math/rand"
	"slices"
	"strconv"
	"strings"
	"testing"

	"belfry/api"
	"belfry/wire"
)

// The messages of the tests are put together by these.

func varint(num int, n uint64) wire.Field {
	return wire.Field{Num: num, Type: wire.Varint, N: n}
}

func eight(num int, n uint64) wire.Field {
	return wire.Field{Num: num, Type: wire.Eight, N: n}
}

func four(num int, n uint64) wire.Field {
	return wire.Field{Num: num, Type: wire.Four, N: n}
}

func str(num int, s string) wire.Field {
	return wire.Field{Num: num, Type: wire.Bytes, B: []byte(s)}
}

func in(num int, l ...wire.Field) wire.Field {
	return str(num, string(msg(l...)))
}

func msg(l ...wire.Field) []byte {
	b, e := wire.Write(l...)
	if e != api.OK {
		panic("a test's message can not be written: " + strconv.Itoa(int(e)))
	}
	return b
}

// trace and id are numbers that are not all 0.
var (
	trace  = [16]byte{15: 1}
	id     = [8]byte{1, 2, 3, 4, 5, 6, 7, 8}
	parent = [8]byte{7: 9}
)

func attrs(l ...string) []api.Attr {
	var out []api.Attr
	for i := 0; i < len(l); i += 2 {
		out = append(out, api.Attr{Key: l[i], Value: l[i+1]})
	}
	return out
}

func manyAttrs(n int) []api.Attr {
	var out []api.Attr
	for i := range n {
		out = append(out, api.Attr{Key: "k" + string(rune('a'+i)), Value: "v"})
	}
	return out
}

func fullPoint() api.Record {
	return api.Record{Kind: api.KPoint, Name: "up", Attrs: attrs("a", "x", "b", "y"), T: 7, V: 3 * api.One}
}

func fullLine() api.Record {
	return api.Record{Kind: api.KLine, Attrs: attrs("a", "x", "b", "y"), T: 7, Level: 9, Text: "hi", Trace: trace, Id: id}
}

func fullSpan() api.Record {
	return api.Record{Kind: api.KSpan, Name: "GET", Attrs: attrs("a", "x", "b", "y"), T: 7, To: 9, Trace: trace, Id: id, Parent: parent}
}

// change turns something of a record.
type change func(r *api.Record)

func changed(r api.Record, l ...change) api.Record {
	r.Attrs = slices.Clone(r.Attrs)
	for _, c := range l {
		c(&r)
	}
	return r
}

// P5.1: records of each kind, with each field that may be zero as zero, and at its bounds.
func TestRightCan(t *testing.T) {
	for _, c := range []struct {
		of api.Record
		l  []change
	}{
		{fullPoint(), []change{
			func(r *api.Record) {},
			func(r *api.Record) { r.Attrs = nil },
			func(r *api.Record) { r.Attrs = []api.Attr{} },
			func(r *api.Record) { r.Attrs = manyAttrs(api.MaxAttrs) },
			func(r *api.Record) { r.T = 0 },
			func(r *api.Record) { r.T = api.MaxTime },
			func(r *api.Record) { r.V = 0 },
			func(r *api.Record) { r.V = 1 },
			func(r *api.Record) { r.V = math.MaxInt64 },
			func(r *api.Record) { r.V = -math.MaxInt64 },
			func(r *api.Record) { r.Name = " \x00\"é" },
			func(r *api.Record) { r.Name = strings.Repeat("x", api.MaxValue) },
		}},
		{fullLine(), []change{
			func(r *api.Record) {},
			func(r *api.Record) { r.Attrs = nil },
			func(r *api.Record) { r.T = 0 },
			func(r *api.Record) { r.T = api.MaxTime },
			func(r *api.Record) { r.Level = 0 },
			func(r *api.Record) { r.Level = 24 },
			func(r *api.Record) { r.Text = "" },
			func(r *api.Record) { r.Text = "\x00\n" },
			func(r *api.Record) { r.Text = strings.Repeat("é", api.MaxText/2) },
			func(r *api.Record) { r.Trace = [16]byte{} },
			func(r *api.Record) { r.Id = [8]byte{} },
			func(r *api.Record) { *r = api.Record{Kind: api.KLine} },
		}},
		{fullSpan(), []change{
			func(r *api.Record) {},
			func(r *api.Record) { r.Attrs = nil },
			func(r *api.Record) { r.T = 0 },
			func(r *api.Record) { r.T, r.To = 0, 0 },
			func(r *api.Record) { r.T = r.To },
			func(r *api.Record) { r.To = api.MaxTime },
			func(r *api.Record) { r.T, r.To = api.MaxTime, api.MaxTime },
			func(r *api.Record) { r.Name = "x" },
			func(r *api.Record) { r.Name = strings.Repeat("é", api.MaxValue/2) },
			func(r *api.Record) { r.Parent = [8]byte{} },
			func(r *api.Record) { r.Trace, r.Id = [16]byte{1}, [8]byte{7: 1} },
		}},
	} {
		for i, x := range c.l {
			r := changed(c.of, x)
			if e := Right(r); e != api.OK {
				t.Errorf("%d: Right(%+v) = %d", i, r, e)
			}
		}
	}
}

// wrong is what can not be, with its error.
type wrong struct {
	e  api.Errno
	do change
}

func wrongAttrs() []wrong {
	return []wrong{
		{api.ErrFull, func(r *api.Record) { r.Attrs = manyAttrs(api.MaxAttrs + 1) }},
		{api.ErrKey, func(r *api.Record) { r.Attrs = attrs("1", "x") }},
		{api.ErrValue, func(r *api.Record) { r.Attrs = attrs("a", "") }},
		{api.ErrTwice, func(r *api.Record) { r.Attrs = attrs("a", "x", "a", "y") }},
		{api.ErrForm, func(r *api.Record) { r.Attrs = attrs("b", "x", "a", "y") }},
	}
}

func wrongTimes() []wrong {
	return []wrong{
		{api.ErrArg, func(r *api.Record) { r.T = -1 }},
		{api.ErrArg, func(r *api.Record) { r.T = math.MinInt64 }},
		{api.ErrArg, func(r *api.Record) { r.T = api.MaxTime + 1 }},
		{api.ErrArg, func(r *api.Record) { r.T = math.MaxInt64 }},
	}
}

func wrongNames() []wrong {
	return []wrong{
		{api.ErrUtf, func(r *api.Record) { r.Name += "\xff" }},
		{api.ErrUtf, func(r *api.Record) { r.Name += "\xed\xa0\x80" }},
		{api.ErrValue, func(r *api.Record) { r.Name += strings.Repeat("x", api.MaxValue+1-len(r.Name)) }},
	}
}

// endsEarly puts a span's end ahead of its beginning, and leaves a time that can not be as it is.
func endsEarly(r *api.Record) {
	if r.To > api.MaxTime {
		r.T = r.To + 1
	}
	r.To = min(r.To, r.T-1)
}

// wrongs are all that can be wrong with a record of a kind, each group in the order in which it is told.
func wrongs(kind int) [][]wrong {
	switch kind {
	case api.KPoint:
		return [][]wrong{
			wrongAttrs(),
			append(wrongTimes(), wrong{api.ErrArg, func(r *api.Record) { r.V = math.MinInt64 }}),
			wrongNames()[:2],
			wrongNames()[2:],
			{
				{api.ErrForm, func(r *api.Record) { r.To = 1 }},
				{api.ErrForm, func(r *api.Record) { r.To = -1 }},
				{api.ErrForm, func(r *api.Record) { r.Level = 1 }},
				{api.ErrForm, func(r *api.Record) { r.Level = -1 }},
				{api.ErrForm, func(r *api.Record) { r.Text = "\xff" }},
				{api.ErrForm, func(r *api.Record) { r.Trace = trace }},
				{api.ErrForm, func(r *api.Record) { r.Id = id }},
				{api.ErrForm, func(r *api.Record) { r.Parent = parent }},
			},
		}
	case api.KLine:
		return [][]wrong{
			wrongAttrs(),
			append(wrongTimes(),
				wrong{api.ErrArg, func(r *api.Record) { r.Level = -1 }},
				wrong{api.ErrArg, func(r *api.Record) { r.Level = 25 }},
				wrong{api.ErrArg, func(r *api.Record) { r.Level = math.MinInt }}),
			{{api.ErrUtf, func(r *api.Record) { r.Text += "\xff" }}},
			{{api.ErrSize, func(r *api.Record) { r.Text += strings.Repeat("x", api.MaxText+1-len(r.Text)) }}},
			{
				{api.ErrForm, func(r *api.Record) { r.Name = "\xff" }},
				{api.ErrForm, func(r *api.Record) { r.Name = "x" }},
				{api.ErrForm, func(r *api.Record) { r.To = 8 }},
				{api.ErrForm, func(r *api.Record) { r.To = -1 }},
				{api.ErrForm, func(r *api.Record) { r.V = 1 }},
				{api.ErrForm, func(r *api.Record) { r.V = math.MinInt64 }},
				{api.ErrForm, func(r *api.Record) { r.Parent = parent }},
			},
		}
	}
	return [][]wrong{
		wrongAttrs(),
		append(wrongTimes(),
			wrong{api.ErrArg, func(r *api.Record) { r.To = -1 }},
			wrong{api.ErrArg, func(r *api.Record) { r.To = api.MaxTime + 1 }}),
		{{api.ErrOld, endsEarly}},
		wrongNames()[:2],
		wrongNames()[2:],
		{
			{api.ErrOtlp, func(r *api.Record) { r.Trace = [16]byte{} }},
			{api.ErrOtlp, func(r *api.Record) { r.Id = [8]byte{} }},
		},
		{
			{api.ErrForm, func(r *api.Record) { r.V = 1 }},
			{api.ErrForm, func(r *api.Record) { r.V = math.MinInt64 }},
			{api.ErrForm, func(r *api.Record) { r.Level = 1 }},
			{api.ErrForm, func(r *api.Record) { r.Level = 99 }},
			{api.ErrForm, func(r *api.Record) { r.Text = "\xff" }},
		},
	}
}

// P5.1: each fault alone; and of two the one that is named first.
func TestRightCanNot(t *testing.T) {
	for _, of := range []api.Record{fullPoint(), fullLine(), fullSpan()} {
		groups := wrongs(of.Kind)
		for g, first := range groups {
			for i, a := range first {
				r := changed(of, a.do)
				if e := Right(r); e != a.e {
					t.Errorf("kind %d, group %d, fault %d: Right = %d, want %d", of.Kind, g, i, e, a.e)
				}
				for h := g + 1; h < len(groups); h++ {
					for j, b := range groups[h] {
						if e := Right(changed(of, a.do, b.do)); e != a.e {
							t.Errorf("kind %d, groups %d and %d, faults %d and %d: Right = %d, want %d", of.Kind, g, h, i, j, e, a.e)
						}
					}
				}
			}
		}
	}
	for _, of := range []api.Record{fullPoint(), fullSpan()} {
		of.Name = ""
		if e := Right(of); e != api.ErrValue {
			t.Errorf("kind %d without a name: Right = %d", of.Kind, e)
		}
	}
}

// P5.1: a kind that is none is told ahead of all else.
func TestRightKind(t *testing.T) {
	for _, kind := range []int{0, 4, -1, math.MaxInt, math.MinInt} {
		r := fullSpan()
		r.Kind = kind
		if e := Right(r); e != api.ErrArg {
			t.Errorf("kind %d: Right = %d", kind, e)
		}
		r.Attrs = attrs("", "")
		if e := Right(r); e != api.ErrArg {
			t.Errorf("kind %d, wrong attributes: Right = %d", kind, e)
		}
	}
}

// P5.1: each field counts, and nothing else.
func TestSame(t *testing.T) {
	full := api.Record{Kind: 9, Name: "n", Attrs: attrs("b", "x", "a", ""), T: 1, To: 2, V: 3, Level: 4, Text: "t", Trace: trace, Id: id, Parent: parent}
	if !Same(full, changed(full)) || !Same(api.Record{}, api.Record{}) || !Same(api.Record{Attrs: []api.Attr{}}, api.Record{}) {
		t.Error("records that are alike")
	}
	for i, c := range []change{
		func(r *api.Record) { r.Kind = 8 },
		func(r *api.Record) { r.Name = "m" },
		func(r *api.Record) { r.Attrs = nil },
		func(r *api.Record) { r.Attrs = r.Attrs[:1] },
		func(r *api.Record) { r.Attrs[1].Key = "c" },
		func(r *api.Record) { r.Attrs[0].Value = "c" },
		func(r *api.Record) { r.Attrs[0], r.Attrs[1] = r.Attrs[1], r.Attrs[0] },
		func(r *api.Record) { r.Attrs = append(r.Attrs, r.Attrs[0]) },
		func(r *api.Record) { r.T = 2 },
		func(r *api.Record) { r.To = 1 },
		func(r *api.Record) { r.V = -3 },
		func(r *api.Record) { r.Level = 5 },
		func(r *api.Record) { r.Text = "" },
		func(r *api.Record) { r.Trace[0] = 1 },
		func(r *api.Record) { r.Trace[15] = 0 },
		func(r *api.Record) { r.Id[7] = 0 },
		func(r *api.Record) { r.Parent[0] = 1 },
	} {
		if r := changed(full, c); Same(full, r) || Same(r, full) {
			t.Errorf("change %d: Same(%+v, %+v)", i, full, r)
		}
	}
}

func sameList(a, b []api.Record) bool {
	return slices.EqualFunc(a, b, Same)
}

// anyText is a right text of at most so many bytes.
func anyText(r *rand.Rand, most int) string {
	signs := []rune{'a', 'b', '"', '\\', '\n', 0, ' ', 'é', '世', '😀', 0xfffd}
	s := ""
	for range r.Intn(6) {
		if next := s + string(signs[r.Intn(len(signs))]); len(next) <= most {
			s = next
		}
	}
	return s
}

func anyAttrs(r *rand.Rand) []api.Attr {
	var out []api.Attr
	for _, k := range []string{"A", "_", "a", "a.b", "b", "b1", strings.Repeat("k", api.MaxKey)} {
		if v := anyText(r, api.MaxValue); r.Intn(3) == 0 && v != "" {
			out = append(out, api.Attr{Key: k, Value: v})
		}
	}
	return out
}

func anyTime(r *rand.Rand) int64 {
	return []int64{0, 1, int64(r.Intn(1000)), r.Int63n(api.MaxTime + 1), api.MaxTime}[r.Intn(5)]
}

func anyId(r *rand.Rand, b []byte) {
	switch r.Intn(3) {
	case 0:
		r.Read(b)
	case 1:
		b[r.Intn(len(b))] = byte(1 + r.Intn(255))
	}
}

// anyRecord is a record that can be; a point's value is whole, if it is asked for.
func anyRecord(r *rand.Rand, kind int, whole bool) api.Record {
	out := api.Record{Kind: kind, Attrs: anyAttrs(r), T: anyTime(r)}
	switch kind {
	case api.KPoint:
		out.Name = "p" + anyText(r, 100)
		out.V = int64(r.Uint64()) >> r.Intn(64)
		if whole {
			out.V -= out.V % api.One
		} else if out.V == math.MinInt64 {
			out.V++
		}
	case api.KLine:
		out.Level = r.Intn(25)
		out.Text = anyText(r, 100)
		anyId(r, out.Trace[:])
		anyId(r, out.Id[:])
	case api.KSpan:
		out.Name = "s" + anyText(r, 100)
		out.To = out.T + r.Int63n(api.MaxTime+1-out.T)
		anyId(r, out.Trace[:])
		anyId(r, out.Id[:])
		anyId(r, out.Parent[:])
		out.Trace[3] |= 1
		out.Id[5] |= 1
	}
	return out
}

// joinBytes puts messages one behind the other.
func joinBytes(l ...[]byte) []byte {
	return bytes.Join(l, nil)
}
