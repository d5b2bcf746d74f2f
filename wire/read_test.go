package wire

import (
	"bytes"
	"math"
	"math/rand"
	"testing"

	"belfry/api"
)

func joined(parts ...[]byte) []byte {
	return bytes.Join(parts, nil)
}

// P2.2: a field of each type, as it stands in bytes.
func TestReadFields(t *testing.T) {
	for _, c := range []struct {
		b []byte
		l []Field
	}{
		{nil, nil},
		{[]byte{}, nil},
		{[]byte{0x08, 0x96, 0x01}, []Field{{Num: 1, Type: Varint, N: 150}}},
		{[]byte{0x12, 0x01, 'a'}, []Field{{Num: 2, Type: Bytes, B: []byte("a")}}},
		{[]byte{0x12, 0x00}, []Field{{Num: 2, Type: Bytes}}},
		{[]byte{0x09, 1, 2, 3, 4, 5, 6, 7, 8}, []Field{{Num: 1, Type: Eight, N: 0x0807060504030201}}},
		{[]byte{0x0d, 1, 2, 3, 0xff}, []Field{{Num: 1, Type: Four, N: 0xff030201}}},
		{[]byte{0x88, 0x80, 0x00, 0x81, 0x00}, []Field{{Num: 1, Type: Varint, N: 1}}},
		{joined([]byte{0x0a}, repeated(0x82, 1), repeated(0x80, 8, 0), []byte("ab")), []Field{{Num: 1, Type: Bytes, B: []byte("ab")}}},
		{[]byte{0xf8, 0xff, 0xff, 0xff, 0x0f, 0x05}, []Field{{Num: maxNum, Type: Varint, N: 5}}},
		{[]byte{0x10, 1, 0x08, 2, 0x10, 3}, []Field{{Num: 2, N: 1}, {Num: 1, N: 2}, {Num: 2, N: 3}}},
	} {
		if l, e, at := Read(c.b); !Same(l, c.l) || e != api.OK || at != 0 {
			t.Errorf("Read(% x) = %v, %d, %d, want %v", c.b, l, e, at, c.l)
		}
	}
}

// P2.2: each fault behind a right field: which one, and that the place is where its field begins.
func TestReadFaults(t *testing.T) {
	ahead := []byte{0x12, 0x02, 'h', 'i'}
	for _, c := range []struct {
		b []byte
		e api.Errno
	}{
		{[]byte{0x80}, api.ErrShort},
		{[]byte{0x08}, api.ErrShort},
		{[]byte{0x08, 0x80, 0x80}, api.ErrShort},
		{[]byte{0x09}, api.ErrShort},
		{[]byte{0x09, 1, 2, 3, 4, 5, 6, 7}, api.ErrShort},
		{[]byte{0x0d, 1, 2, 3}, api.ErrShort},
		{[]byte{0x0a}, api.ErrShort},
		{[]byte{0x0a, 0x80}, api.ErrShort},
		{[]byte{0x0a, 2, 'a'}, api.ErrShort},
		{[]byte{0x0a, 1}, api.ErrShort},
		{joined([]byte{0x0a}, Put(nil, math.MaxUint64), []byte("abc")), api.ErrShort},
		{joined([]byte{0x0a}, Put(nil, 1<<63), []byte("abc")), api.ErrShort},
		{joined([]byte{0x0a}, Put(nil, math.MaxInt64), []byte("abc")), api.ErrShort},
		{repeated(0x80, 10), api.ErrShort},
		{repeated(0x80, 10, 0), api.ErrWire},
		{repeated(0xff, 9, 2), api.ErrWire},
		{joined([]byte{0x08}, repeated(0x80, 10, 0)), api.ErrWire},
		{joined([]byte{0x08}, repeated(0x80, 9, 2)), api.ErrWire},
		{joined([]byte{0x0a}, repeated(0x80, 10, 0)), api.ErrWire},
		{joined([]byte{0x0a}, repeated(0x80, 9, 2)), api.ErrWire},
		{[]byte{0x00}, api.ErrWire},
		{[]byte{0x00, 0x01}, api.ErrWire},
		{[]byte{0x80, 0x00}, api.ErrWire},
		{[]byte{0x01}, api.ErrWire}, // the number is looked at ahead of what follows
		{[]byte{0x02, 5, 'a'}, api.ErrWire},
		{[]byte{0x07}, api.ErrWire},
		{[]byte{0x0b}, api.ErrWire},
		{[]byte{0x0c}, api.ErrWire},
		{[]byte{0x0e}, api.ErrWire},
		{[]byte{0x0f}, api.ErrWire},
		{[]byte{0x0b, 0x80}, api.ErrWire}, // the type is looked at ahead of what follows
		{joined(Put(nil, 1<<32), []byte{1}), api.ErrWire},
		{joined(Put(nil, 1<<32|Bytes), []byte{9}), api.ErrWire},
		{joined(Put(nil, math.MaxUint64&^7), []byte{1}), api.ErrWire},
		{joined(Put(nil, 1<<63|1<<3), []byte{1}), api.ErrWire},
	} {
		for _, first := range [][]byte{nil, ahead} {
			b := joined(first, c.b)
			if l, e, at := Read(b); len(l) != 0 || e != c.e || at != len(first) {
				t.Errorf("Read(% x) = %v, %d, %d, want %d, %d", b, l, e, at, c.e, len(first))
			}
		}
	}
}

// P2.2: the fault that stands first is told, whatever comes behind it.
func TestReadFirstFault(t *testing.T) {
	if _, e, at := Read([]byte{0x08, 1, 0x00, 0x0b, 0x80}); e != api.ErrWire || at != 2 {
		t.Errorf("Read = %d, %d", e, at)
	}
	if _, e, at := Read([]byte{0x08, 1, 0x0a, 9, 0x00, 0x00}); e != api.ErrShort || at != 2 {
		t.Errorf("Read = %d, %d", e, at)
	}
}

// P2.2: MaxFields fields are read; bytes behind them are told where they begin, whatever they are.
func TestReadMaxFields(t *testing.T) {
	full := bytes.Repeat([]byte{0x08, 0x01}, api.MaxFields)
	if l, e, at := Read(full); len(l) != api.MaxFields || e != api.OK || at != 0 {
		t.Fatalf("Read of MaxFields fields = %d fields, %d, %d", len(l), e, at)
	}
	for _, more := range [][]byte{{0x08, 0x01}, {0x08}, {0x80}, {0x00}, {0x0b}, repeated(0x80, 10, 0), {0x12, 0x05}} {
		if l, e, at := Read(joined(full, more)); len(l) != 0 || e != api.ErrFull || at != len(full) {
			t.Errorf("Read with % x behind = %d fields, %d, %d", more, len(l), e, at)
		}
	}
	wrong := joined(full[2:], []byte{0x00}, full)
	if _, e, at := Read(wrong); e != api.ErrWire || at != len(full)-2 {
		t.Errorf("a fault within the first MaxFields = %d, %d", e, at)
	}
}

// P2.2: MaxFile bytes are read; one more is told ahead of all faults.
func TestReadMaxFile(t *testing.T) {
	head := joined([]byte{0x0a}, Put(nil, api.MaxFile-4))
	b := make([]byte, api.MaxFile)
	copy(b, head)
	if l, e, _ := Read(b); e != api.OK || len(l) != 1 || len(l[0].B) != api.MaxFile-len(head) {
		t.Fatalf("Read of MaxFile bytes = %d fields, %d", len(l), e)
	}
	for _, first := range [][]byte{head, {0x08, 1, 0x00}, bytes.Repeat([]byte{0x08, 0x01}, api.MaxFields)} {
		b := make([]byte, api.MaxFile+1)
		copy(b, first)
		if l, e, at := Read(b); len(l) != 0 || e != api.ErrSize || at != 0 {
			t.Errorf("Read of one more = %d fields, %d, %d", len(l), e, at)
		}
	}
}

// Rules 4 and 5: an answer is new memory, each part for itself, and nothing that is handed in is changed.
func TestReadIsNewMemory(t *testing.T) {
	b := []byte{0x12, 0x01, 'a', 0x12, 0x01, 'b'}
	l, _, _ := Read(b)
	l[0].B[0] = 'x'
	l[0].B = append(l[0].B, 'y', 'y', 'y', 'y')
	if !bytes.Equal(b, []byte{0x12, 0x01, 'a', 0x12, 0x01, 'b'}) || string(l[1].B) != "b" {
		t.Errorf("what was written into an answer is seen: % x, %q", b, l[1].B)
	}
	b[5] = 'z'
	if string(l[1].B) != "b" {
		t.Error("what was handed in is kept")
	}
}

// fieldsOf are some fields of every type.
func fieldsOf(r *rand.Rand, n int) []Field {
	l := make([]Field, n)
	for i := range l {
		f := Field{Num: 1 + r.Intn(maxNum)>>r.Intn(29), Type: []int{Varint, Eight, Bytes, Four}[r.Intn(4)]}
		switch f.Type {
		case Bytes:
			f.B = make([]byte, r.Intn(200))
			r.Read(f.B)
		case Four:
			f.N = uint64(r.Uint32())
		default:
			f.N = r.Uint64() >> r.Intn(64)
		}
		l[i] = f
	}
	return l
}

// P2.7: messages one behind the other are read as all fields.
func TestReadJoined(t *testing.T) {
	r := rand.New(rand.NewSource(4))
	for range 300 {
		a, b := fieldsOf(r, r.Intn(8)), fieldsOf(r, r.Intn(8))
		x, _ := Write(a...)
		y, _ := Write(b...)
		if l, e, _ := Read(joined(x, y)); e != api.OK || !Same(l, append(a, b...)) {
			t.Errorf("Read of %v and %v = %v, %d", a, b, l, e)
		}
	}
}

// P2.7: a message cut at any place: within a field it is told, at that field; between fields it is one of fewer.
func TestReadCut(t *testing.T) {
	r := rand.New(rand.NewSource(5))
	for range 60 {
		l := fieldsOf(r, 1+r.Intn(5))
		b, _ := Write(l...)
		begins := []int{0}
		for i := range l {
			part, _ := Write(l[:i+1]...)
			begins = append(begins, len(part))
		}
		field := 0
		for cut := range len(b) + 1 {
			if field+1 < len(begins) && begins[field+1] == cut {
				field++
			}
			g, e, at := Read(b[:cut])
			if cut == begins[field] {
				if e != api.OK || at != 0 || !Same(g, l[:field]) {
					t.Fatalf("cut between fields at %d: %v, %d, %d", cut, g, e, at)
				}
			} else if len(g) != 0 || e != api.ErrShort || at != begins[field] {
				t.Fatalf("cut within a field at %d: %v, %d, %d, want ErrShort, %d", cut, g, e, at, begins[field])
			}
		}
	}
}

// P1: any bytes: Read ends, and what it tells is right fields, or an error with nothing beside it.
func TestReadAnyBytes(t *testing.T) {
	r := rand.New(rand.NewSource(6))
	for range 100000 {
		b := make([]byte, r.Intn(24))
		for i := range b {
			b[i] = byte(r.Intn(256)) >> r.Intn(6)
		}
		was := bytes.Clone(b)
		l, e, at := Read(b)
		if !bytes.Equal(b, was) {
			t.Fatalf("Read changed % x", was)
		}
		if e != api.OK && (len(l) != 0 || at < 0 || at >= len(b) || e != api.ErrShort && e != api.ErrWire) {
			t.Fatalf("Read(% x) = %v, %d, %d", b, l, e, at)
		}
		if _, we := Write(l...); e == api.OK && (at != 0 || we != api.OK) {
			t.Fatalf("Read(% x) = %v, at %d; it can not be written: %d", b, l, at, we)
		}
		if e != api.OK {
			// What stands ahead of the place is right.
			if _, e, _ := Read(b[:at]); e != api.OK {
				t.Fatalf("Read(% x) tells a fault at %d, and there is one ahead of it", b, at)
			}
		}
	}
}
