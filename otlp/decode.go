package otlp

import (
	"belfry/api"
	"belfry/attr"
	"belfry/wire"
)

// Decode tells the records of a request's message, in order; or its first fault.
func Decode(kind int, b []byte) ([]api.Record, api.Errno) {
	var d decoder
	item := d.item(kind)
	if item == nil {
		return nil, api.ErrArg
	}
	err := readMessage(b, part{1, wire.Bytes, func(f wire.Field) error {
		return d.takePart(f, part{2, wire.Bytes, item})
	}})
	if err != nil {
		return nil, errnoOf(err)
	}
	return d.records, api.OK
}

// decoder gathers a request's records.
type decoder struct {
	resource []api.Attr // of the part that is read now
	records  []api.Record
}

// item is what takes a metric, a line or a span; nil of a kind that is none.
func (d *decoder) item(kind int) func(wire.Field) error {
	switch kind {
	case api.KPoint:
		return d.takeMetric
	case api.KLine:
		return d.takeLine
	case api.KSpan:
		return d.takeSpan
	}
	return nil
}

// takePart takes a request's part: all its Resources ahead of its items, wherever they stand.
func (d *decoder) takePart(f wire.Field, item part) error {
	l, err := fieldsOf(f.B)
	if err != nil {
		return err
	}
	d.resource = nil
	if err := visit(l, part{1, wire.Bytes, d.takeResource}); err != nil {
		return err
	}
	return visit(l, part{2, wire.Bytes, func(f wire.Field) error {
		return readMessage(f.B, item)
	}})
}

func (d *decoder) takeResource(f wire.Field) error {
	var l keyValues
	if err := readMessage(f.B, part{1, wire.Bytes, l.take}); err != nil {
		return err
	}
	d.resource = l.standing()
	return nil
}

// takeMetric takes a metric's points, those of its gauge ahead of those of its sum.
func (d *decoder) takeMetric(f wire.Field) error {
	l, err := fieldsOf(f.B)
	if err != nil {
		return err
	}
	var name string
	var gauge, sum []byte
	for _, p := range []part{{1, wire.Bytes, textInto(&name)}, {5, wire.Bytes, bytesInto(&gauge)}, {7, wire.Bytes, bytesInto(&sum)}} {
		if err := visit(l, p); err != nil {
			return err
		}
	}
	point := part{1, wire.Bytes, func(f wire.Field) error { return d.takePoint(name, f) }}
	if err := readMessage(gauge, point); err != nil {
		return fault{5, err}
	}
	if err := readMessage(sum, point); err != nil {
		return fault{7, err}
	}
	return nil
}

func (d *decoder) takePoint(name string, f wire.Field) error {
	r := api.Record{Kind: api.KPoint, Name: name}
	var v value
	var own keyValues
	err := readMessage(f.B,
		part{3, wire.Eight, timeInto(&r.T)},
		part{4, wire.Eight, v.takeFloat},
		part{6, wire.Eight, v.takeWhole},
		part{7, wire.Bytes, own.take})
	if err != nil {
		return err
	}
	if !v.came {
		return errMessage
	}
	r.V = v.v
	return d.add(r, own)
}

func (d *decoder) takeLine(f wire.Field) error {
	r := api.Record{Kind: api.KLine}
	var body text
	var own keyValues
	err := readMessage(f.B,
		part{1, wire.Eight, timeInto(&r.T)},
		part{2, wire.Varint, levelInto(&r.Level)},
		part{5, wire.Bytes, func(f wire.Field) error {
			body = text{}
			return readMessage(f.B, part{1, wire.Bytes, body.takeBytes})
		}},
		part{6, wire.Bytes, own.take},
		part{9, wire.Bytes, idOrNoneInto(r.Trace[:])},
		part{10, wire.Bytes, idOrNoneInto(r.Id[:])})
	if err != nil {
		return err
	}
	if !body.came {
		return errMessage
	}
	r.Text = body.s
	return d.add(r, own)
}

func (d *decoder) takeSpan(f wire.Field) error {
	r := api.Record{Kind: api.KSpan}
	var own keyValues
	err := readMessage(f.B,
		part{1, wire.Bytes, idInto(r.Trace[:])},
		part{2, wire.Bytes, idInto(r.Id[:])},
		part{4, wire.Bytes, idOrNoneInto(r.Parent[:])},
		part{5, wire.Bytes, textInto(&r.Name)},
		part{7, wire.Eight, timeInto(&r.T)},
		part{8, wire.Eight, timeInto(&r.To)},
		part{9, wire.Bytes, own.take})
	if err != nil {
		return err
	}
	return d.add(r, own)
}

// add puts a record that is read whole behind the others, with its attributes, if it can be.
func (d *decoder) add(r api.Record, own keyValues) error {
	var e api.Errno
	if r.Attrs, e = attr.Make(joined(d.resource, own.standing())...); e != api.OK {
		return told(e)
	}
	if len(d.records) == api.MaxRecords {
		return errMany
	}
	if e := Right(r); e != api.OK {
		return told(e)
	}
	d.records = append(d.records, r)
	return nil
}
