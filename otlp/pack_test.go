package otlp

import (
	"bytes"
	"math"
	"math/rand"
	"strings"
	"testing"

	"belfry/api"
	"belfry/wire"
)

// packedPair is an attribute as Pack writes it.
func packedPair(key, value string) wire.Field {
	return in(3, str(1, key), str(2, value))
}

// P5.4: the fields in their order, those that are 0 or empty left out.
func TestPack(t *testing.T) {
	tr, own := string(trace[:]), string(id[:])
	for _, c := range []struct {
		r    api.Record
		want []wire.Field
	}{
		{fullPoint(), []wire.Field{varint(1, 1), str(2, "up"), packedPair("a", "x"), packedPair("b", "y"), varint(4, 7), varint(6, 6*api.One)}},
		{api.Record{Kind: api.KPoint, Name: "n"}, []wire.Field{varint(1, 1), str(2, "n")}},
		{api.Record{Kind: api.KPoint, Name: "n", V: -1}, []wire.Field{varint(1, 1), str(2, "n"), varint(6, 1)}},
		{api.Record{Kind: api.KPoint, Name: "n", V: math.MaxInt64, T: api.MaxTime}, []wire.Field{varint(1, 1), str(2, "n"), varint(4, api.MaxTime), varint(6, math.MaxUint64-1)}},
		{api.Record{Kind: api.KPoint, Name: "n", V: -math.MaxInt64}, []wire.Field{varint(1, 1), str(2, "n"), varint(6, math.MaxUint64-2)}},
		{fullLine(), []wire.Field{varint(1, 2), packedPair("a", "x"), packedPair("b", "y"), varint(4, 7), varint(7, 9), str(8, "hi"), str(9, tr), str(10, own)}},
		{api.Record{Kind: api.KLine}, []wire.Field{varint(1, 2)}},
		{api.Record{Kind: api.KLine, Id: id}, []wire.Field{varint(1, 2), str(10, own)}},
		{api.Record{Kind: api.KLine, Trace: trace}, []wire.Field{varint(1, 2), str(9, tr)}},
		{fullSpan(), []wire.Field{varint(1, 3), str(2, "GET"), packedPair("a", "x"), packedPair("b", "y"), varint(4, 7), varint(5, 9), str(9, tr), str(10, own), str(11, string(parent[:]))}},
		{least(api.KSpan), []wire.Field{varint(1, 3), str(2, "GET"), str(9, tr), str(10, own)}},
	} {
		b, e := Pack(c.r)
		if e != api.OK || !bytes.Equal(b, msg(c.want...)) {
			t.Errorf("Pack(%+v) = % x, %d, want % x", c.r, b, e, msg(c.want...))
		}
		if r, e := Unpack(b); e != api.OK || !Same(r, c.r) {
			t.Errorf("Unpack(% x) = %+v, %d, want %+v", b, r, e, c.r)
		}
	}
}

// P5.4: Right's error.
func TestPackRight(t *testing.T) {
	for _, of := range []api.Record{fullPoint(), fullLine(), fullSpan()} {
		for _, group := range wrongs(of.Kind) {
			for _, w := range group {
				if b, e := Pack(changed(of, w.do)); e != w.e || len(b) != 0 {
					t.Errorf("kind %d: Pack = % x, %d, want %d", of.Kind, b, e, w.e)
				}
			}
		}
	}
	if b, e := Pack(api.Record{}); e != api.ErrArg || len(b) != 0 {
		t.Errorf("Pack of no kind = % x, %d", b, e)
	}
}

func expectUnpack(t *testing.T, what string, b []byte, want api.Errno) {
	t.Helper()
	was := bytes.Clone(b)
	if r, e := Unpack(b); e != want || !Same(r, api.Record{}) {
		t.Errorf("%s: Unpack(% x) = %+v, %d, want %d", what, b, r, e, want)
	}
	if !bytes.Equal(b, was) {
		t.Errorf("%s: Unpack has changed its bytes", what)
	}
}

// P5.4: wire.Read's error of bytes that are no message.
func TestUnpackBytes(t *testing.T) {
	expectUnpack(t, "cut off", []byte{8}, api.ErrShort)
	expectUnpack(t, "no message", []byte{0}, api.ErrWire)
	expectUnpack(t, "too many fields", bytes.Repeat([]byte{8, 1}, api.MaxFields+1), api.ErrFull)
	expectUnpack(t, "too long", make([]byte, api.MaxFile+1), api.ErrSize)
	expectUnpack(t, "a wrong field, and then no message", append(msg(varint(1, 9)), 0), api.ErrWire)
	expectUnpack(t, "a wrong attribute, and then no message", append(msg(str(3, "\x0a")), 0), api.ErrWire)
}

// P5.4: messages that Pack writes of no record.
func TestUnpackOthers(t *testing.T) {
	tr, own := string(trace[:]), string(id[:])
	p, n := varint(1, 1), str(2, "n")
	for what, l := range map[string][]wire.Field{
		"nothing":                     {},
		"no kind":                     {n},
		"a kind that is none":         {varint(1, 4), n},
		"a great kind":                {varint(1, math.MaxUint64), n},
		"kind 0":                      {varint(1, 0), n},
		"a kind's type":               {eight(1, 1), n},
		"twice a kind":                {p, p, n},
		"a field out of order":        {n, p},
		"a field that is not known":   {p, n, varint(12, 1)},
		"an empty field not known":    {p, n, str(99, "")},
		"no name":                     {p},
		"an empty name":               {varint(1, 2), str(2, "")},
		"a name's type":               {p, varint(2, 5)},
		"two names":                   {p, str(2, "m"), n},
		"a name that is not right":    {p, str(2, "\xff")},
		"a time that is 0":            {p, n, varint(4, 0)},
		"a time above MaxTime":        {p, n, varint(4, api.MaxTime+1)},
		"a time's type":               {p, n, eight(4, 5)},
		"a great time":                {p, n, varint(4, math.MaxUint64)},
		"an end of a point":           {p, n, varint(5, 5)},
		"a great end":                 {varint(1, 3), n, varint(5, 1<<63), str(9, tr), str(10, own)},
		"an end ahead":                {varint(1, 3), n, varint(4, 5), varint(5, 4), str(9, tr), str(10, own)},
		"a value that is 0":           {p, n, varint(6, 0)},
		"the least value":             {p, n, varint(6, math.MaxUint64)},
		"a value of a line":           {varint(1, 2), varint(6, 2)},
		"a value's type":              {p, n, eight(6, 2)},
		"a level above 24":            {varint(1, 2), varint(7, 25)},
		"a great level":               {varint(1, 2), varint(7, math.MaxUint64)},
		"a level that is 0":           {varint(1, 2), varint(7, 0)},
		"a level's type":              {varint(1, 2), four(7, 1)},
		"a level of a point":          {p, n, varint(7, 1)},
		"an empty text":               {varint(1, 2), str(8, "")},
		"a text that is not right":    {varint(1, 2), str(8, "\xff")},
		"a text too long":             {varint(1, 2), str(8, strings.Repeat("x", api.MaxText+1))},
		"a text's type":               {varint(1, 2), varint(8, 1)},
		"a text of a span":            {varint(1, 3), n, str(8, "x"), str(9, tr), str(10, own)},
		"a trace all 0":               {varint(1, 2), str(9, string(make([]byte, 16)))},
		"an empty trace":              {varint(1, 2), str(9, "")},
		"a short trace":               {varint(1, 2), str(9, tr[1:])},
		"a long trace":                {varint(1, 2), str(9, tr+"x")},
		"a trace's type":              {varint(1, 2), varint(9, 1)},
		"a number all 0":              {varint(1, 2), str(10, string(make([]byte, 8)))},
		"a short number":              {varint(1, 2), str(10, own[1:])},
		"a long number":               {varint(1, 2), str(10, own+"x")},
		"a number's type":             {varint(1, 2), eight(10, 1)},
		"no trace of a span":          {varint(1, 3), n, str(10, own)},
		"a parent of a line":          {varint(1, 2), str(11, own)},
		"a parent all 0":              {varint(1, 3), n, str(9, tr), str(10, own), str(11, string(make([]byte, 8)))},
		"a short parent":              {varint(1, 3), n, str(9, tr), str(10, own), str(11, "x")},
		"a parent's type":             {varint(1, 3), n, str(9, tr), str(10, own), varint(11, 1)},
		"an attribute's bytes":        {p, n, str(3, "\x0a")},
		"an attribute's type":         {p, n, varint(3, 1)},
		"an empty attribute":          {p, n, str(3, "")},
		"a key's type":                {p, n, in(3, varint(1, 1), str(2, "x"))},
		"a value's type of one":       {p, n, in(3, str(1, "a"), varint(2, 1))},
		"an attribute without a key":  {p, n, in(3, str(2, "x"))},
		"one without a value":         {p, n, in(3, str(1, "a"))},
		"one with an empty value":     {p, n, in(3, str(1, "a"), str(2, ""))},
		"one out of order":            {p, n, in(3, str(2, "x"), str(1, "a"))},
		"one with two keys":           {p, n, in(3, str(1, "b"), str(1, "a"), str(2, "x"))},
		"one with an unknown field":   {p, n, in(3, str(1, "a"), str(2, "x"), varint(3, 1))},
		"a wrong key":                 {p, n, packedPair("1", "x")},
		"a wrong value":               {p, n, packedPair("a", "\xff")},
		"attributes out of order":     {p, n, packedPair("b", "x"), packedPair("a", "x")},
		"an attribute twice":          {p, n, packedPair("a", "x"), packedPair("a", "x")},
		"attributes behind the times": {p, n, varint(4, 5), packedPair("a", "x")},
	} {
		expectUnpack(t, what, msg(l...), api.ErrOtlp)
	}
	// Varints that are longer than they must be.
	expectUnpack(t, "a long varint", []byte{0x08, 0x82, 0x00}, api.ErrOtlp)
	expectUnpack(t, "a long head", []byte{0x88, 0x00, 0x02}, api.ErrOtlp)
	expectUnpack(t, "a long length", []byte{0x08, 0x01, 0x12, 0x81, 0x00, 'n'}, api.ErrOtlp)
	expectUnpack(t, "a long length of a key", []byte{0x08, 0x01, 0x12, 0x01, 'n', 0x1a, 0x07, 0x0a, 0x81, 0x00, 'a', 0x12, 0x01, 'x'}, api.ErrOtlp)
	var many []wire.Field
	for _, a := range manyAttrs(api.MaxAttrs + 1) {
		many = append(many, packedPair(a.Key, a.Value))
	}
	if r, e := Unpack(msg(append([]wire.Field{p, n}, many[:api.MaxAttrs]...)...)); e != api.OK || len(r.Attrs) != api.MaxAttrs {
		t.Errorf("MaxAttrs attributes: %+v, %d", r, e)
	}
	expectUnpack(t, "one attribute more", msg(append([]wire.Field{p, n}, many...)...), api.ErrOtlp)
}

// P5.5, P9: what is packed is told again as it was, of all kinds.
func TestPackAndBack(t *testing.T) {
	r := rand.New(rand.NewSource(1))
	for i := range 9000 {
		want := anyRecord(r, 1+i%3, false)
		b, e := Pack(want)
		g, f := Unpack(b)
		if e != api.OK || f != api.OK || !Same(g, want) {
			t.Fatalf("Pack(%+v) = % x, %d, Unpack = %+v, %d", want, b, e, g, f)
		}
	}
	long := api.Record{Kind: api.KLine, Text: strings.Repeat("x", api.MaxText)}
	b, e := Pack(long)
	if g, f := Unpack(b); e != api.OK || f != api.OK || !Same(g, long) {
		t.Errorf("a long line: %d, %d", e, f)
	}
}

// P5.4: of any bytes Unpack tells a record that Pack tells so, or an error; bytes near to right ones are taken.
func TestUnpackOnlyWhatPackWrites(t *testing.T) {
	r := rand.New(rand.NewSource(2))
	right, other := 0, 0
	for i := range 100000 {
		b, _ := Pack(anyRecord(r, 1+i%3, false))
		switch r.Intn(4) {
		case 0:
			b[r.Intn(len(b))] ^= 1 << r.Intn(8)
		case 1:
			b = b[:r.Intn(len(b))]
		case 2:
			b = joinBytes(b, msg(varint(1+r.Intn(12), uint64(r.Intn(3)))))
		case 3:
			l, _, _ := wire.Read(b)
			r.Shuffle(len(l), func(i, j int) { l[i], l[j] = l[j], l[i] })
			b = msg(l...)
		}
		g, e := Unpack(b)
		if e != api.OK {
			if _, re, _ := wire.Read(b); !Same(g, api.Record{}) || re != api.OK && e != re || re == api.OK && e != api.ErrOtlp {
				t.Fatalf("Unpack(% x) = %+v, %d; Read's error is %d", b, g, e, re)
			}
			other++
			continue
		}
		right++
		if again, e := Pack(g); e != api.OK || !bytes.Equal(again, b) {
			t.Fatalf("Unpack(% x) = %+v, of which Pack tells % x, %d", b, g, again, e)
		}
	}
	if right < 1000 || other < 1000 {
		t.Errorf("%d right ones, %d others", right, other)
	}
}

// Rules 4 and 5: an answer shares no memory with the bytes.
func TestUnpackIsNewMemory(t *testing.T) {
	b, _ := Pack(fullSpan())
	r, _ := Unpack(b)
	for i := range b {
		b[i] = 0
	}
	if !Same(r, fullSpan()) {
		t.Errorf("bytes that were handed in are kept: %+v", r)
	}
	if c, _ := Pack(fullSpan()); bytes.Equal(b, c) {
		t.Error("what is written into an answer is seen")
	}
}
