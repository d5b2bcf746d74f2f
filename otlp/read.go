package otlp

import (
	"strconv"

	"belfry/api"
	"belfry/fixed"
	"belfry/wire"
)

// part is a field that is known in a message: its number, its type, and what takes it.
type part struct {
	num  int
	form int
	take func(f wire.Field) error
}

// readMessage reads a message's bytes, and hands its known fields on, from the left.
func readMessage(b []byte, parts ...part) error {
	l, err := fieldsOf(b)
	if err != nil {
		return err
	}
	return visit(l, parts...)
}

func fieldsOf(b []byte) ([]wire.Field, error) {
	l, e, _ := wire.Read(b)
	return l, told(e)
}

// visit hands the known ones of a message's fields on, from the left, till one is at fault.
func visit(l []wire.Field, parts ...part) error {
fields:
	for _, f := range l {
		var known part
		for i := 0; known.num != f.Num; i++ {
			if i == len(parts) {
				continue fields
			}
			known = parts[i]
		}
		err := errMessage
		if f.Type == known.form {
			err = known.take(f)
		}
		if err != nil {
			return fault{f.Num, err}
		}
	}
	return nil
}

// bytesInto takes bytes; of several fields the last one counts.
func bytesInto(b *[]byte) func(wire.Field) error {
	return func(f wire.Field) error {
		*b = f.B
		return nil
	}
}

func textInto(s *string) func(wire.Field) error {
	return func(f wire.Field) error {
		*s = string(f.B)
		return nil
	}
}

func timeInto(t *int64) func(wire.Field) error {
	return func(f wire.Field) error {
		if f.N > api.MaxTime {
			return errBounds
		}
		*t = int64(f.N)
		return nil
	}
}

func levelInto(level *int) func(wire.Field) error {
	return func(f wire.Field) error {
		if f.N > maxLevel {
			return errBounds
		}
		*level = int(f.N)
		return nil
	}
}

// idInto takes a trace or a span's number, which has just as many bytes.
func idInto(id []byte) func(wire.Field) error {
	return func(f wire.Field) error {
		if len(f.B) != len(id) {
			return errMessage
		}
		copy(id, f.B)
		return nil
	}
}

// idOrNoneInto takes one that may be empty too; then it is all 0, whatever a field ahead of it said.
func idOrNoneInto(id []byte) func(wire.Field) error {
	whole := idInto(id)
	return func(f wire.Field) error {
		if len(f.B) == 0 {
			clear(id)
			return nil
		}
		return whole(f)
	}
}

// text is a text that a message may have: one that is empty is another thing than none.
type text struct {
	s    string
	came bool
}

func (t *text) takeBytes(f wire.Field) error {
	*t = text{string(f.B), true}
	return nil
}

func (t *text) takeTruth(f wire.Field) error {
	*t = text{strconv.FormatBool(f.N != 0), true}
	return nil
}

// takeWhole takes a whole number, which has a sign: one below 0 is a varint of all its 64 bits.
func (t *text) takeWhole(f wire.Field) error {
	*t = text{strconv.FormatInt(int64(f.N), 10), true}
	return nil
}

// value is a point's value, which must have come.
type value struct {
	v    int64
	came bool
}

func (v *value) takeFloat(f wire.Field) error {
	n, e := fixed.Float(f.N)
	*v = value{n, true}
	return told(e)
}

func (v *value) takeWhole(f wire.Field) error {
	*v = value{fixed.Of(int64(f.N)), true}
	return nil
}
