package frame

import (
	"bytes"
	"math"
	"slices"

	"belfry/api"
	"belfry/wire"
)

// maxBytes is how many bytes of a request, or of an answer, are read at most.
const maxBytes = 2 * api.MaxText

// Write tells a request's bytes; or Right's error.
func Write(r Request) ([]byte, api.Errno) {
	if e := Right(r); e != api.OK {
		return nil, e
	}
	return write(
		number(1, r.Id),
		number(2, int64(r.Op)),
		number(3, int64(r.Kind)),
		text(4, []byte(r.Text)),
		number(5, r.At),
		number(6, r.From),
		number(7, r.To),
		text(8, r.Body),
	)
}

// Read tells the request of which Write tells just these bytes.
func Read(b []byte) (Request, api.Errno) {
	f, e := read(b, wire.Varint, wire.Varint, wire.Varint, wire.Bytes, wire.Varint, wire.Varint, wire.Varint, wire.Bytes)
	if e != api.OK {
		return Request{}, e
	}
	r := Request{
		Id:   int64(f[1].N),
		Op:   int(f[2].N),
		Kind: int(f[3].N),
		Text: string(f[4].B),
		At:   int64(f[5].N),
		From: int64(f[6].N),
		To:   int64(f[7].N),
		Body: f[8].B,
	}
	again, e := Write(r)
	switch {
	case e != api.OK:
		return Request{}, e
	case !bytes.Equal(again, b):
		return Request{}, api.ErrForm
	}
	return r, api.OK
}

func number(num int, n int64) wire.Field {
	return wire.Field{Num: num, Type: wire.Varint, N: uint64(n)}
}

func text(num int, b []byte) wire.Field {
	return wire.Field{Num: num, Type: wire.Bytes, B: b}
}

// write tells the message of some fields, those that are 0 or empty left out.
func write(l ...wire.Field) ([]byte, api.Errno) {
	return wire.Write(slices.DeleteFunc(l, func(f wire.Field) bool { return f.N == 0 && len(f.B) == 0 })...)
}

// read tells a message's fields by their numbers, zero ones where there are none. The types are those of the fields 1, 2 and so on.
func read(b []byte, types ...int) ([]wire.Field, api.Errno) {
	if len(b) > maxBytes {
		return nil, api.ErrSize
	}
	l, e, _ := wire.Read(b)
	if e != api.OK {
		return nil, e
	}
	fields := make([]wire.Field, len(types)+1)
	last := 0
	for _, f := range l {
		if f.Num <= last || f.Num > len(types) || f.Type != types[f.Num-1] || f.N > math.MaxInt64 {
			return nil, api.ErrForm
		}
		fields[f.Num] = f
		last = f.Num
	}
	return fields, api.OK
}
