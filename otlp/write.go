package otlp

import (
	"belfry/api"
	"belfry/wire"
)

// message is a message that is being written: its fields, in order.
type message []wire.Field

// putVarint puts a number as a varint, if it is not 0.
func (m *message) putVarint(num int, n uint64) {
	if n != 0 {
		*m = append(*m, wire.Field{Num: num, Type: wire.Varint, N: n})
	}
}

// putEight puts a number as eight bytes, if it is 0 too.
func (m *message) putEight(num int, n int64) {
	*m = append(*m, wire.Field{Num: num, Type: wire.Eight, N: uint64(n)})
}

// putBytes puts bytes, if there are none too.
func (m *message) putBytes(num int, b []byte) {
	*m = append(*m, wire.Field{Num: num, Type: wire.Bytes, B: b})
}

// putText puts a text, if it is not empty.
func (m *message) putText(num int, s string) {
	if s != "" {
		m.putBytes(num, []byte(s))
	}
}

// putId puts a trace or a span's number, if it is not all 0.
func (m *message) putId(num int, id []byte) {
	if !noId(id) {
		m.putBytes(num, id)
	}
}

// writer writes messages within one another, and keeps the first error that wire.Write tells: what is written behind it is thrown away.
type writer struct {
	e api.Errno
}

func (w *writer) write(m message) []byte {
	b, e := wire.Write(m...)
	if w.e == api.OK {
		w.e = e
	}
	return b
}

// around writes a message of just one field.
func (w *writer) around(num int, b []byte) []byte {
	var m message
	m.putBytes(num, b)
	return w.write(m)
}
