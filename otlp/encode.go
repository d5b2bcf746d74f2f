package otlp

import (
	"belfry/api"
)

// Encode tells records of one kind as a request's message.
func Encode(kind int, l ...api.Record) ([]byte, api.Errno) {
	if e := canEncode(kind, l); e != api.OK {
		return nil, e
	}
	if len(l) == 0 {
		return nil, api.OK
	}
	var w writer
	var items message
	for _, r := range l {
		items.putBytes(2, w.item(r))
	}
	b := w.around(1, w.around(2, w.write(items)))
	if w.e != api.OK {
		return nil, w.e
	}
	return b, api.OK
}

// canEncode tells what keeps records from being written: their kinds, how many they are, what can not be, values that are not whole, in this order.
func canEncode(kind int, l []api.Record) api.Errno {
	if !rightKind(kind) {
		return api.ErrArg
	}
	for _, r := range l {
		if r.Kind != kind {
			return api.ErrArg
		}
	}
	if len(l) > api.MaxRecords {
		return api.ErrFull
	}
	for _, r := range l {
		if e := Right(r); e != api.OK {
			return e
		}
	}
	for _, r := range l {
		if r.V%api.One != 0 {
			return api.ErrValue
		}
	}
	return api.OK
}

// item is what stands for a record: a metric of one point, a line, or a span.
func (w *writer) item(r api.Record) []byte {
	switch r.Kind {
	case api.KPoint:
		return w.metric(r)
	case api.KLine:
		return w.line(r)
	}
	return w.span(r)
}

func (w *writer) metric(r api.Record) []byte {
	var point message
	point.putEight(3, r.T)
	point.putEight(6, r.V/api.One)
	w.attrs(&point, 7, r.Attrs)
	var m message
	m.putText(1, r.Name)
	m.putBytes(5, w.around(1, w.write(point)))
	return w.write(m)
}

func (w *writer) line(r api.Record) []byte {
	var m message
	m.putEight(1, r.T)
	m.putVarint(2, uint64(r.Level))
	m.putBytes(5, w.around(1, []byte(r.Text)))
	w.attrs(&m, 6, r.Attrs)
	m.putId(9, r.Trace[:])
	m.putId(10, r.Id[:])
	return w.write(m)
}

func (w *writer) span(r api.Record) []byte {
	var m message
	m.putId(1, r.Trace[:])
	m.putId(2, r.Id[:])
	m.putId(4, r.Parent[:])
	m.putText(5, r.Name)
	m.putEight(7, r.T)
	m.putEight(8, r.To)
	w.attrs(&m, 9, r.Attrs)
	return w.write(m)
}

// attrs puts each attribute as a KeyValue, its value as a text.
func (w *writer) attrs(m *message, num int, l []api.Attr) {
	for _, a := range l {
		var pair message
		pair.putText(1, a.Key)
		pair.putBytes(2, w.around(1, []byte(a.Value)))
		m.putBytes(num, w.write(pair))
	}
}
