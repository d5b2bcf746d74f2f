package otlp

import (
	"math"
	"math/rand"
	"strconv"
	"strings"
	"testing"

	"belfry/api"
	"belfry/attr"
	"belfry/fixed"
	"belfry/wire"
)

// thrown is a fault that the model has found.
type thrown api.Errno

// modelDecode reads a request as the chapter tells it, step by step, in another way than the program.
func modelDecode(kind int, b []byte) (l []api.Record, e api.Errno) {
	defer func() {
		switch x := recover().(type) {
		case nil:
		case thrown:
			l, e = nil, api.Errno(x)
		default:
			panic(x)
		}
	}()
	if kind < 1 || kind > 3 {
		return nil, api.ErrArg
	}
	m := model{kind: kind}
	for _, f := range modelFields(b) {
		if f.Num == 1 {
			m.part(modelFields(want(f, wire.Bytes).B))
		}
	}
	return m.out, api.OK
}

type model struct {
	kind int
	res  []api.Attr
	out  []api.Record
}

func throwIf(bad bool, e api.Errno) {
	if bad {
		panic(thrown(e))
	}
}

func modelFields(b []byte) []wire.Field {
	l, e, _ := wire.Read(b)
	throwIf(e != api.OK, e)
	return l
}

func want(f wire.Field, form int) wire.Field {
	throwIf(f.Type != form, api.ErrOtlp)
	return f
}

func (m *model) part(l []wire.Field) {
	m.res = nil
	for _, f := range l {
		if f.Num == 1 {
			m.res = nil
			for _, g := range modelFields(want(f, wire.Bytes).B) {
				if g.Num == 1 {
					m.res = putBehind(m.res, modelPair(want(g, wire.Bytes).B))
				}
			}
		}
	}
	for _, f := range l {
		if f.Num == 2 {
			for _, g := range modelFields(want(f, wire.Bytes).B) {
				if g.Num == 2 {
					m.item(modelFields(want(g, wire.Bytes).B))
				}
			}
		}
	}
}

// putBehind: an attribute takes an earlier one of its key away, and stands behind all, if it is not empty.
func putBehind(l []api.Attr, a api.Attr) []api.Attr {
	var out []api.Attr
	for _, x := range l {
		if x.Key != a.Key {
			out = append(out, x)
		}
	}
	if a.Value != "" {
		out = append(out, a)
	}
	return out
}

func modelPair(b []byte) api.Attr {
	var a api.Attr
	var v *string
	for _, f := range modelFields(b) {
		switch f.Num {
		case 1:
			a.Key = string(want(f, wire.Bytes).B)
		case 2:
			v = nil
			for _, g := range modelFields(want(f, wire.Bytes).B) {
				switch g.Num {
				case 1:
					s := string(want(g, wire.Bytes).B)
					v = &s
				case 2:
					s := "true"
					if want(g, wire.Varint).N == 0 {
						s = "false"
					}
					v = &s
				case 3:
					s := strconv.Itoa(int(want(g, wire.Varint).N))
					v = &s
				}
			}
		}
	}
	throwIf(v == nil, api.ErrOtlp)
	a.Value = *v
	return a
}

func (m *model) item(l []wire.Field) {
	switch m.kind {
	case api.KPoint:
		m.metric(l)
	case api.KLine:
		m.line(l)
	case api.KSpan:
		m.span(l)
	}
}

func (m *model) metric(l []wire.Field) {
	name := ""
	for _, f := range wire.All(l, 1) {
		name = string(want(f, wire.Bytes).B)
	}
	for _, num := range []int{5, 7} {
		for _, f := range wire.All(l, num) {
			want(f, wire.Bytes)
		}
	}
	for _, num := range []int{5, 7} {
		if f, ok := wire.Last(l, num); ok {
			for _, g := range modelFields(f.B) {
				if g.Num == 1 {
					m.point(name, modelFields(want(g, wire.Bytes).B))
				}
			}
		}
	}
}

func modelTime(f wire.Field) int64 {
	throwIf(want(f, wire.Eight).N > api.MaxTime, api.ErrArg)
	return int64(f.N)
}

func (m *model) point(name string, l []wire.Field) {
	r := api.Record{Kind: api.KPoint, Name: name}
	var own []api.Attr
	has := false
	for _, f := range l {
		switch f.Num {
		case 3:
			r.T = modelTime(f)
		case 4:
			throwIf(math.IsNaN(math.Float64frombits(want(f, wire.Eight).N)), api.ErrArg)
			r.V, _ = fixed.Float(f.N)
			has = true
		case 6:
			r.V = fixed.Of(int64(want(f, wire.Eight).N))
			has = true
		case 7:
			own = putBehind(own, modelPair(want(f, wire.Bytes).B))
		}
	}
	throwIf(!has, api.ErrOtlp)
	m.whole(r, own)
}

func modelId(f wire.Field, n int, none bool) []byte {
	want(f, wire.Bytes)
	throwIf(len(f.B) != n && (len(f.B) != 0 || !none), api.ErrOtlp)
	return append(f.B, make([]byte, n-len(f.B))...)
}

func (m *model) line(l []wire.Field) {
	r := api.Record{Kind: api.KLine}
	var own []api.Attr
	has := false
	for _, f := range l {
		switch f.Num {
		case 1:
			r.T = modelTime(f)
		case 2:
			throwIf(want(f, wire.Varint).N > 24, api.ErrArg)
			r.Level = int(f.N)
		case 5:
			has = false
			for _, g := range modelFields(want(f, wire.Bytes).B) {
				if g.Num == 1 {
					r.Text, has = string(want(g, wire.Bytes).B), true
				}
			}
		case 6:
			own = putBehind(own, modelPair(want(f, wire.Bytes).B))
		case 9:
			r.Trace = [16]byte(modelId(f, 16, true))
		case 10:
			r.Id = [8]byte(modelId(f, 8, true))
		}
	}
	throwIf(!has, api.ErrOtlp)
	m.whole(r, own)
}

func (m *model) span(l []wire.Field) {
	r := api.Record{Kind: api.KSpan}
	var own []api.Attr
	for _, f := range l {
		switch f.Num {
		case 1:
			r.Trace = [16]byte(modelId(f, 16, false))
		case 2:
			r.Id = [8]byte(modelId(f, 8, false))
		case 4:
			r.Parent = [8]byte(modelId(f, 8, true))
		case 5:
			r.Name = string(want(f, wire.Bytes).B)
		case 7:
			r.T = modelTime(f)
		case 8:
			r.To = modelTime(f)
		case 9:
			own = putBehind(own, modelPair(want(f, wire.Bytes).B))
		}
	}
	m.whole(r, own)
}

func (m *model) whole(r api.Record, own []api.Attr) {
	all := m.res
	for _, a := range own {
		all = putBehind(all, a)
	}
	set, e := attr.Make(all...)
	throwIf(e != api.OK, e)
	throwIf(len(m.out) >= 1000, api.ErrFull)
	r.Attrs = set
	e = Right(r)
	throwIf(e != api.OK, e)
	m.out = append(m.out, r)
}

// maker makes messages, most of them right, with fields that are not known, of other types, several times, in any order.
type maker struct {
	*rand.Rand
	odd int // one of so many fields is odd
}

// oddly: is this one odd?
func (r maker) oddly() bool {
	return r.Intn(r.odd) == 0
}

// mixed is a message of these fields: now and then one twice, one left out, one that is not known, one of another type; perhaps in another order.
func (r maker) mixed(l ...wire.Field) []wire.Field {
	var out []wire.Field
	for _, f := range l {
		if r.oddly() {
			continue
		}
		if r.oddly() {
			out = append(out, []wire.Field{varint(f.Num, 3), eight(f.Num, 3), str(f.Num, "\x0a\x00"), four(f.Num, 3)}[r.Intn(4)])
		}
		if r.oddly() {
			out = append(out, f)
		}
		out = append(out, f)
		if r.oddly() {
			out = append(out, []wire.Field{varint(8, 3), eight(11, 3), str(20, "x"), four(1000, 3), str(f.Num, "")}[r.Intn(5)])
		}
	}
	if r.Intn(4) == 0 {
		r.Shuffle(len(out), func(i, j int) { out[i], out[j] = out[j], out[i] })
	}
	return out
}

func (r maker) pair(num int) wire.Field {
	v := []wire.Field{str(1, ""), str(1, "x"), str(1, "é"), varint(2, 0), varint(2, 1), varint(2, 7), varint(3, 0), varint(3, 12), varint(3, math.MaxUint64), varint(3, 1<<63)}[r.Intn(10)]
	if r.oddly() {
		v = str(1, []string{"\xff", strings.Repeat("x", 257)}[r.Intn(2)])
	}
	key := []string{"a", "b", "c", "d", "e", "f"}[r.Intn(6)]
	if r.oddly() {
		key = []string{"", "1", "é", strings.Repeat("k", 65)}[r.Intn(4)]
	}
	return in(num, r.mixed(str(1, key), in(2, r.mixed(v)...))...)
}

func (r maker) pairs(num, most int) []wire.Field {
	var l []wire.Field
	for range r.Intn(most) {
		l = append(l, r.pair(num))
	}
	return l
}

func (r maker) time(num int) wire.Field {
	t := []uint64{0, 5, 6, api.MaxTime}[r.Intn(4)]
	if r.oddly() {
		t = []uint64{api.MaxTime + 1, 1 << 63, math.MaxUint64}[r.Intn(3)]
	}
	return eight(num, t)
}

func (r maker) id(num, n int, none bool) wire.Field {
	if none && r.Intn(3) == 0 || r.oddly() {
		n = 0
	}
	if r.oddly() {
		n += r.Intn(3) - 1
	}
	s := strings.Repeat("\x00", max(n, 0))
	if n > 0 && !r.oddly() {
		s = s[1:] + "\x07"
	}
	return str(num, s)
}

func (r maker) name(num int) wire.Field {
	if r.oddly() {
		return str(num, []string{"", "\xff", strings.Repeat("x", 257)}[r.Intn(3)])
	}
	return str(num, "name")
}

func (r maker) point() []wire.Field {
	l := append([]wire.Field{r.time(3)}, r.pairs(7, 3)...)
	f := []float64{0, 1.5, -0.1, math.Inf(1), math.Inf(-1), 1e300, 5e-324}[r.Intn(7)]
	if r.oddly() {
		f = math.NaN()
	}
	n := []int64{0, 1, -1, math.MaxInt64, math.MinInt64, 9223372036854}[r.Intn(6)]
	switch r.Intn(4) {
	case 0:
		l = append(l, eight(4, math.Float64bits(f)), eight(6, uint64(n)))
	case 1:
		l = append(l, eight(6, uint64(n)), eight(4, math.Float64bits(f)))
	case 2:
		l = append(l, eight(6, uint64(n)))
	default:
		l = append(l, eight(4, math.Float64bits(f)))
	}
	return r.mixed(l...)
}

func (r maker) points(num int) wire.Field {
	var l []wire.Field
	for range r.Intn(3) {
		l = append(l, in(1, r.point()...))
	}
	return in(num, r.mixed(l...)...)
}

func (r maker) item(kind int) []wire.Field {
	switch kind {
	case api.KPoint:
		l := []wire.Field{r.name(1), r.points(5)}
		for range r.Intn(3) {
			l = append(l, r.points([]int{5, 7}[r.Intn(2)]))
		}
		return r.mixed(l...)
	case api.KLine:
		level := uint64(r.Intn(25))
		text := []string{"", "hi", "a\x00b"}[r.Intn(3)]
		if r.oddly() {
			level = []uint64{25, math.MaxUint64, 1 << 32}[r.Intn(3)]
		}
		if r.oddly() {
			text = []string{"\xff", strings.Repeat("x", api.MaxText), strings.Repeat("x", api.MaxText+1)}[r.Intn(3)]
		}
		l := []wire.Field{r.time(1), varint(2, level), in(5, r.mixed(str(1, text))...), r.id(9, 16, true), r.id(10, 8, true)}
		return r.mixed(append(l, r.pairs(6, 4)...)...)
	}
	from := r.time(7)
	to := r.time(8)
	if to.N < from.N && !r.oddly() {
		to.N, from.N = from.N, to.N
	}
	return r.mixed(append([]wire.Field{r.id(1, 16, false), r.id(2, 8, false), r.id(4, 8, true), r.name(5), from, to}, r.pairs(9, 4)...)...)
}

func (r maker) request(kind int) []byte {
	var parts []wire.Field
	for range 1 + r.Intn(2) {
		var l []wire.Field
		for range r.Intn(3) {
			l = append(l, in(1, r.mixed(r.pairs(1, 4)...)...))
		}
		for range r.Intn(3) {
			var items []wire.Field
			for range r.Intn(3) {
				items = append(items, in(2, r.item(kind)...))
			}
			l = append(l, in(2, r.mixed(items...)...))
		}
		parts = append(parts, in(1, r.mixed(l...)...))
	}
	return msg(r.mixed(parts...)...)
}

// P5.2, P5.6, P5.7: of messages of all sorts the program tells what the chapter does, and what it tells can be.
func TestDecodeAsTheModel(t *testing.T) {
	errs := map[api.Errno]int{}
	records := 0
	for seed := range int64(60000) {
		r := maker{rand.New(rand.NewSource(seed)), []int{20, 100, 400, 5000}[seed%4]}
		kind := 1 + r.Intn(3)
		b := r.request(kind)
		switch r.Intn(8) {
		case 0:
			b = b[:r.Intn(len(b)+1)]
		case 1:
			if len(b) > 0 {
				b[r.Intn(len(b))] ^= 1 << r.Intn(8)
			}
		case 2:
			kind = 1 + r.Intn(3)
		}
		l, e := Decode(kind, b)
		want, we := modelDecode(kind, b)
		if e != we || !sameList(l, want) {
			t.Fatalf("seed %d: Decode(%d, % x) = %+v, %d, want %+v, %d", seed, kind, b, l, e, want, we)
		}
		for _, x := range l {
			if e := Right(x); e != api.OK {
				t.Fatalf("seed %d: Decode tells what can not be: %+v, %d", seed, x, e)
			}
		}
		errs[e]++
		records += len(l)
	}
	for _, e := range []api.Errno{api.OK, api.ErrArg, api.ErrShort, api.ErrWire, api.ErrOtlp, api.ErrKey, api.ErrValue, api.ErrUtf, api.ErrOld, api.ErrSize} {
		if errs[e] < 20 {
			t.Errorf("the messages have brought error %d only %d times", e, errs[e])
		}
	}
	if records < 20000 {
		t.Errorf("the messages have brought only %d records", records)
	}
}
