package otlp

import (
	"belfry/api"
	"belfry/attr"
	"belfry/wire"
)

// keyValues are attributes as they come, one after another.
type keyValues []api.Attr

func (l *keyValues) take(f wire.Field) error {
	var a api.Attr
	var value text
	err := readMessage(f.B,
		part{1, wire.Bytes, textInto(&a.Key)},
		part{2, wire.Bytes, func(f wire.Field) error {
			value = text{}
			return readMessage(f.B,
				part{1, wire.Bytes, value.takeBytes},
				part{2, wire.Varint, value.takeTruth},
				part{3, wire.Varint, value.takeWhole})
		}})
	if err != nil {
		return err
	}
	if !value.came {
		return errMessage
	}
	a.Value = value.s
	*l = append(*l, a)
	return nil
}

// standing are those that stand in the end: since each one takes an earlier one of its key away, it is the last one of each key, in order, if its value is not empty.
func (l keyValues) standing() []api.Attr {
	last := make(map[string]int)
	for i, a := range l {
		last[a.Key] = i
	}
	var out []api.Attr
	for i, a := range l {
		if last[a.Key] == i && a.Value != "" {
			out = append(out, a)
		}
	}
	return out
}

// joined are a record's attributes: the Resource's of other keys, and behind them its own.
func joined(resource, own []api.Attr) []api.Attr {
	keys := make([]string, len(own))
	for i, a := range own {
		keys[i] = a.Key
	}
	return append(attr.Without(resource, keys...), own...)
}
