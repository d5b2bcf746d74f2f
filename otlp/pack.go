package otlp

import (
	"bytes"

	"belfry/api"
	"belfry/wire"
)

// Pack tells one record of any kind as bytes; or Right's error.
func Pack(r api.Record) ([]byte, api.Errno) {
	if e := Right(r); e != api.OK {
		return nil, e
	}
	var w writer
	var m message
	m.putVarint(1, uint64(r.Kind))
	m.putText(2, r.Name)
	for _, a := range r.Attrs {
		var pair message
		pair.putText(1, a.Key)
		pair.putText(2, a.Value)
		m.putBytes(3, w.write(pair))
	}
	m.putVarint(4, uint64(r.T))
	m.putVarint(5, uint64(r.To))
	m.putVarint(6, wire.Zig(r.V))
	m.putVarint(7, uint64(r.Level))
	m.putText(8, r.Text)
	m.putId(9, r.Trace[:])
	m.putId(10, r.Id[:])
	m.putId(11, r.Parent[:])
	b := w.write(m)
	return b, w.e
}

// Unpack tells the record of which Pack tells just these bytes; ErrOtlp if there is none.
func Unpack(b []byte) (api.Record, api.Errno) {
	l, e, _ := wire.Read(b)
	if e != api.OK {
		return api.Record{}, e
	}
	r, err := packed(l)
	if err != nil {
		return api.Record{}, api.ErrOtlp
	}
	// Fields that are out of order, too many or too long are passed over so far: they show when it is written again.
	if again, e := Pack(r); e != api.OK || !bytes.Equal(again, b) {
		return api.Record{}, api.ErrOtlp
	}
	return r, api.OK
}

// packed is what a record's fields say.
func packed(l []wire.Field) (api.Record, error) {
	var r api.Record
	err := visit(l,
		part{1, wire.Varint, func(f wire.Field) error { r.Kind = int(f.N); return nil }},
		part{2, wire.Bytes, textInto(&r.Name)},
		part{3, wire.Bytes, func(f wire.Field) error {
			var a api.Attr
			err := readMessage(f.B, part{1, wire.Bytes, textInto(&a.Key)}, part{2, wire.Bytes, textInto(&a.Value)})
			r.Attrs = append(r.Attrs, a)
			return err
		}},
		part{4, wire.Varint, timeInto(&r.T)},
		part{5, wire.Varint, timeInto(&r.To)},
		part{6, wire.Varint, func(f wire.Field) error { r.V = wire.Zag(f.N); return nil }},
		part{7, wire.Varint, levelInto(&r.Level)},
		part{8, wire.Bytes, textInto(&r.Text)},
		part{9, wire.Bytes, idInto(r.Trace[:])},
		part{10, wire.Bytes, idInto(r.Id[:])},
		part{11, wire.Bytes, idInto(r.Parent[:])})
	return r, err
}
