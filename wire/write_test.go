package wire

import (
	"bytes"
	"math"
	"math/rand"
	"slices"
	"testing"

	"belfry/api"
)

// P2.3: fields as bytes.
func TestWriteFields(t *testing.T) {
	for _, c := range []struct {
		l    []Field
		want []byte
	}{
		{nil, nil},
		{[]Field{{Num: 1, Type: Varint, N: 150}}, []byte{0x08, 0x96, 0x01}},
		{[]Field{{Num: 2, Type: Bytes, B: []byte("a")}}, []byte{0x12, 0x01, 'a'}},
		{[]Field{{Num: 2, Type: Bytes}}, []byte{0x12, 0x00}},
		{[]Field{{Num: 1, Type: Eight, N: 0x0807060504030201}}, []byte{0x09, 1, 2, 3, 4, 5, 6, 7, 8}},
		{[]Field{{Num: 1, Type: Four, N: 0xff030201}}, []byte{0x0d, 1, 2, 3, 0xff}},
		{[]Field{{Num: maxNum, Type: Varint, N: math.MaxUint64}}, joined([]byte{0xf8, 0xff, 0xff, 0xff, 0x0f}, repeated(0xff, 9, 1))},
		{[]Field{{Num: 2, Type: Varint, B: []byte{}}, {Num: 1, Type: Varint, N: 128}}, []byte{0x10, 0, 0x08, 0x80, 0x01}},
	} {
		if g, e := Write(c.l...); !bytes.Equal(g, c.want) || e != api.OK {
			t.Errorf("Write(%v) = % x, %d, want % x", c.l, g, e, c.want)
		}
	}
}

// P2.3: fields that can not be.
func TestWriteWrong(t *testing.T) {
	right := Field{Num: 1, Type: Varint, N: 1}
	for _, f := range []Field{
		{Num: 0, Type: Varint}, {Num: -1, Type: Varint}, {Num: 1 << 29, Type: Varint}, {Num: math.MaxInt, Type: Varint}, {Num: math.MinInt, Type: Bytes},
		{Num: 1, Type: 3}, {Num: 1, Type: 4}, {Num: 1, Type: 6}, {Num: 1, Type: 7}, {Num: 1, Type: 8}, {Num: 1, Type: -1}, {Num: 1, Type: math.MaxInt}, {Num: 1, Type: math.MinInt},
		{Num: 1, Type: Four, N: 1 << 32}, {Num: 1, Type: Four, N: math.MaxUint64},
		{Num: 1, Type: Bytes, N: 1}, {Num: 1, Type: Bytes, N: 1, B: []byte("a")},
		{Num: 1, Type: Varint, B: []byte("a")}, {Num: 1, Type: Eight, B: []byte("a")}, {Num: 1, Type: Four, B: []byte("a")},
		{},
	} {
		for _, l := range [][]Field{{f}, {right, f}, {f, right}} {
			if g, e := Write(l...); len(g) != 0 || e != api.ErrWire {
				t.Errorf("Write(%v) = % x, %d, want ErrWire", l, g, e)
			}
		}
	}
	if g, e := Write(Field{Num: 1, Type: Four, N: math.MaxUint32}); len(g) != 5 || e != api.OK {
		t.Errorf("Write of the greatest of four bytes = % x, %d", g, e)
	}
}

// P2.3: MaxFields and one more; MaxFile and one more; which error is told first.
func TestWriteBounds(t *testing.T) {
	l := make([]Field, api.MaxFields)
	for i := range l {
		l[i] = Field{Num: 1, Type: Varint, N: 1}
	}
	if g, e := Write(l...); len(g) != 2*api.MaxFields || e != api.OK {
		t.Errorf("Write of MaxFields = %d bytes, %d", len(g), e)
	}
	if g, e := Write(append(l, Field{})...); len(g) != 0 || e != api.ErrFull {
		t.Errorf("Write of one more, a wrong one = %d bytes, %d, want ErrFull", len(g), e)
	}
	// A head of one byte, a length of three.
	most := Field{Num: 1, Type: Bytes, B: make([]byte, api.MaxFile-4)}
	over := Field{Num: 1, Type: Bytes, B: make([]byte, api.MaxFile-3)}
	if g, e := Write(most); len(g) != api.MaxFile || e != api.OK {
		t.Errorf("Write of MaxFile bytes = %d bytes, %d", len(g), e)
	}
	for _, l := range [][]Field{{over}, {most, {Num: 1, Type: Varint}}, slices.Repeat([]Field{most}, api.MaxFields)} {
		if g, e := Write(l...); len(g) != 0 || e != api.ErrSize {
			t.Errorf("Write of more than MaxFile bytes = %d bytes, %d, want ErrSize", len(g), e)
		}
	}
	if g, e := Write(over, Field{}); len(g) != 0 || e != api.ErrWire {
		t.Errorf("Write of too many bytes and a wrong field = %d bytes, %d, want ErrWire", len(g), e)
	}
	if _, e := Write(slices.Repeat([]Field{over}, api.MaxFields+1)...); e != api.ErrFull {
		t.Errorf("Write of too many fields and bytes = %d, want ErrFull", e)
	}
}

// Rules 4 and 5: what was handed in is neither changed nor kept.
func TestWriteIsNewMemory(t *testing.T) {
	l := []Field{{Num: 2, Type: Bytes, B: []byte("a")}}
	g, _ := Write(l...)
	g[2] = 'x'
	if string(l[0].B) != "a" {
		t.Error("Write shares memory with what was handed in")
	}
}

// P2.5, P9: Read of what Write answers is the same list.
func TestReadOfWrite(t *testing.T) {
	r := rand.New(rand.NewSource(7))
	for range 2000 {
		l := fieldsOf(r, r.Intn(20))
		b, e := Write(l...)
		if e != api.OK {
			t.Fatalf("Write(%v) = %d", l, e)
		}
		if g, e, at := Read(b); e != api.OK || at != 0 || !Same(g, l) {
			t.Fatalf("Read of Write of %v = %v, %d, %d", l, g, e, at)
		}
	}
}

// P2.3: Canon's form, its errors and their places.
func TestCanon(t *testing.T) {
	for _, c := range []struct{ b, want []byte }{
		{nil, nil},
		{[]byte{0x08, 0x96, 0x01}, []byte{0x08, 0x96, 0x01}},
		{[]byte{0x88, 0x80, 0x00, 0x96, 0x81, 0x00}, []byte{0x08, 0x96, 0x01}},
		{[]byte{0x12, 0x82, 0x00, 0x80, 0x00, 0x08, 1}, []byte{0x12, 0x02, 0x80, 0x00, 0x08, 1}},
		{joined([]byte{0x08}, repeated(0x80, 9, 0)), []byte{0x08, 0}},
		{[]byte{0x0d, 0x80, 0, 0, 0}, []byte{0x0d, 0x80, 0, 0, 0}},
	} {
		if g, e, at := Canon(c.b); !bytes.Equal(g, c.want) || e != api.OK || at != 0 {
			t.Errorf("Canon(% x) = % x, %d, %d, want % x", c.b, g, e, at, c.want)
		}
	}
	for _, b := range [][]byte{
		{0x00}, {0x08, 1, 0x00}, {0x08, 1, 0x08}, {0x08, 1, 0x0b}, make([]byte, api.MaxFile+1), bytes.Repeat([]byte{8, 1}, api.MaxFields+1),
	} {
		_, we, wat := Read(b)
		if g, e, at := Canon(b); len(g) != 0 || e == api.OK || e != we || at != wat {
			t.Errorf("Canon of %d bytes = % x, %d, %d, want %d, %d", len(b), g, e, at, we, wat)
		}
	}
}

// looseVarint is a varint that may be longer than it must be.
func looseVarint(r *rand.Rand, n uint64) []byte {
	b := Put(nil, n)
	for len(b) < 10 && r.Intn(2) == 0 {
		b[len(b)-1] |= 0x80
		b = append(b, 0)
	}
	return b
}

// looseWrite is a message in which varints may be longer than they must be.
func looseWrite(r *rand.Rand, l []Field) []byte {
	var b []byte
	for _, f := range l {
		b = append(b, looseVarint(r, uint64(f.Num)<<3|uint64(f.Type))...)
		one, _ := Write(f)
		_, at, _ := Get(one, 0)
		switch f.Type {
		case Varint:
			b = append(b, looseVarint(r, f.N)...)
		case Bytes:
			b = append(append(b, looseVarint(r, uint64(len(f.B)))...), f.B...)
		default:
			b = append(b, one[at:]...)
		}
	}
	return b
}

// P2.6: Canon of Canon is Canon; it changes varints alone, and never makes a message longer.
func TestCanonIsOneForm(t *testing.T) {
	r := rand.New(rand.NewSource(8))
	for range 2000 {
		l := fieldsOf(r, r.Intn(10))
		loose := looseWrite(r, l)
		tight, _ := Write(l...)
		g, e, at := Canon(loose)
		if !bytes.Equal(g, tight) || e != api.OK || at != 0 || len(g) > len(loose) {
			t.Fatalf("Canon(% x) = % x, %d, %d, want % x", loose, g, e, at, tight)
		}
		if again, e, _ := Canon(g); !bytes.Equal(again, g) || e != api.OK {
			t.Fatalf("Canon(% x) = % x, %d", g, again, e)
		}
		if m, _, _ := Read(g); !Same(m, l) {
			t.Fatalf("Canon changed %v to %v", l, m)
		}
	}
}
