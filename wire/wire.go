// Package wire is layer 2: messages in the wire form of Protocol Buffers, and the numbers in them.
package wire

import (
	"bytes"

	"belfry/api"
)

// The types of fields.
const (
	Varint = 0
	Eight  = 1
	Bytes  = 2
	Four   = 5
)

// maxNum is the greatest number of a field.
const maxNum = 1<<29 - 1

// Field is a field of a message: of type Bytes B is its bytes, of the others N is its number.
type Field struct {
	Num  int
	Type int
	N    uint64
	B    []byte
}

// Canon tells a message in its one form, with varints as short as they can be; or Read's error and its place.
func Canon(b []byte) ([]byte, api.Errno, int) {
	l, e, at := Read(b)
	if e != api.OK {
		return nil, e, at
	}
	out, e := Write(l...)
	return out, e, 0
}

// Same tells whether two lists are alike, field by field.
func Same(a, b []Field) bool {
	if len(a) != len(b) {
		return false
	}
	for i := range a {
		if !sameField(a[i], b[i]) {
			return false
		}
	}
	return true
}

func sameField(a, b Field) bool {
	return a.Num == b.Num && a.Type == b.Type && a.N == b.N && bytes.Equal(a.B, b.B)
}

// Last tells the last field of a number; false if there is none.
func Last(l []Field, num int) (Field, bool) {
	for i := len(l) - 1; i >= 0; i-- {
		if l[i].Num == num {
			return ownField(l[i]), true
		}
	}
	return Field{}, false
}

// All tells all fields of a number, in order.
func All(l []Field, num int) []Field {
	var out []Field
	for _, f := range l {
		if f.Num == num {
			out = append(out, ownField(f))
		}
	}
	return out
}

// ownField is a field with bytes of its own, since an answer shares no memory with what was handed in.
func ownField(f Field) Field {
	f.B = bytes.Clone(f.B)
	return f
}

// rightHead tells whether there can be a field of this number and this type.
func rightHead(num, kind int) bool {
	if num < 1 || num > maxNum {
		return false
	}
	return kind == Varint || kind == Eight || kind == Bytes || kind == Four
}
