package otlp

import (
	"errors"
	"math"
	"testing"

	"belfry/api"
	"belfry/wire"
)

// P5.2: a fault is found by Is and As however deep it lies, and says where.
func TestFaults(t *testing.T) {
	var d decoder
	line := func(l ...wire.Field) error { return readMessage(msg(in(2, l...)), part{2, wire.Bytes, d.takeLine}) }
	metric := func(l ...wire.Field) error { return readMessage(msg(in(2, l...)), part{2, wire.Bytes, d.takeMetric}) }
	nan := in(1, float(math.NaN()))
	for _, c := range []struct {
		err   error
		e     api.Errno
		words string
	}{
		{line(in(5, str(1, "hi"))), api.OK, ""},
		{line(varint(2, 25)), api.ErrArg, "field 2: field 2: a number out of its bounds"},
		{line(in(6, str(1, "a"))), api.ErrOtlp, "field 2: field 6: no right message"},
		{line(str(6, "\x0a")), api.ErrShort, "field 2: field 6: error 8"},
		{line(in(6, in(2, varint(1, 5)))), api.ErrOtlp, "field 2: field 6: field 2: field 1: no right message"},
		{metric(in(5, nan)), api.ErrArg, "field 2: field 5: field 1: field 4: error 1"},
		{metric(in(7, nan)), api.ErrArg, "field 2: field 7: field 1: field 4: error 1"},
		{metric(varint(5, 1)), api.ErrOtlp, "field 2: field 5: no right message"},
	} {
		if e := errnoOf(c.err); e != c.e {
			t.Errorf("%v is %d, want %d", c.err, e, c.e)
		}
		if c.e != api.OK && c.err.Error() != c.words {
			t.Errorf("a fault says %q, want %q", c.err, c.words)
		}
	}
	d.records = make([]api.Record, api.MaxRecords)
	if err := line(in(5, str(1, "hi"))); !errors.Is(err, errMany) || errnoOf(err) != api.ErrFull {
		t.Errorf("one record more is %v", err)
	}
}
