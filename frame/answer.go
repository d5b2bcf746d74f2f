package frame

import (
	"bytes"

	"belfry/api"
	"belfry/wire"
)

// Pack tells an answer's bytes: ErrArg, if one of its numbers can not be, ErrSize, if its body is too long.
func Pack(o api.Out) ([]byte, api.Errno) {
	switch {
	case !isNumber(o.Id) || !isNumber(o.Slot) || o.Why < 0:
		return nil, api.ErrArg
	case len(o.Body) > api.MaxText:
		return nil, api.ErrSize
	}
	return write(number(1, o.Id), number(2, o.Slot), number(3, int64(o.Why)), text(4, []byte(o.Body)))
}

// Unpack tells the answer of which Pack tells just these bytes.
func Unpack(b []byte) (api.Out, api.Errno) {
	f, e := read(b, wire.Varint, wire.Varint, wire.Varint, wire.Bytes)
	if e != api.OK {
		return api.Out{}, e
	}
	o := api.Out{Id: int64(f[1].N), Slot: int64(f[2].N), Why: api.Errno(f[3].N), Body: string(f[4].B)}
	if again, e := Pack(o); e != api.OK || !bytes.Equal(again, b) {
		return api.Out{}, api.ErrForm
	}
	return o, api.OK
}

// Each tells the answers that stand one behind the other, each behind how many bytes it has; or why the first one at fault is, and where it begins.
func Each(b []byte) ([]api.Out, api.Errno, int) {
	var l []api.Out
	for at := 0; at < len(b); {
		o, end, e := answerAt(b, at)
		if e != api.OK {
			return nil, e, at
		}
		l = append(l, o)
		at = end
	}
	return l, api.OK, 0
}

// answerAt reads the answer whose length begins at a place, and tells the place behind it.
func answerAt(b []byte, at int) (api.Out, int, api.Errno) {
	n, begin, e := wire.Get(b, at)
	switch {
	// Compared without a sign: a length may be above every int.
	case e == api.ErrShort, e == api.OK && n > uint64(len(b)-begin):
		return api.Out{}, 0, api.ErrShort
	case e != api.OK:
		return api.Out{}, 0, api.ErrForm
	}
	end := begin + int(n)
	o, e := Unpack(b[begin:end])
	switch {
	case e != api.OK:
		return api.Out{}, 0, e
	case begin-at != len(wire.Put(nil, n)):
		return api.Out{}, 0, api.ErrForm
	}
	return o, end, api.OK
}
