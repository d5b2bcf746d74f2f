package wire

import "belfry/api"

// Write tells the message of these fields: ErrFull if they are too many, ErrWire if one can not be, ErrSize if it would be too long.
func Write(l ...Field) ([]byte, api.Errno) {
	if len(l) > api.MaxFields {
		return nil, api.ErrFull
	}
	size := 0
	for _, f := range l {
		if !rightField(f) {
			return nil, api.ErrWire
		}
		size += fieldSize(f)
	}
	if size > api.MaxFile {
		return nil, api.ErrSize
	}
	out := make([]byte, 0, size)
	for _, f := range l {
		out = appendField(out, f)
	}
	return out, api.OK
}

// rightField tells whether a field can be written and read again as it was.
func rightField(f Field) bool {
	if !rightHead(f.Num, f.Type) {
		return false
	}
	switch f.Type {
	case Bytes:
		return f.N == 0
	case Four:
		return f.N < 1<<32 && len(f.B) == 0
	}
	return len(f.B) == 0
}

// head is the number that stands ahead of a field's content.
func head(f Field) uint64 {
	return uint64(f.Num)<<3 | uint64(f.Type)
}

// fieldSize is how many bytes a field takes; it is reckoned ahead of writing, so that nothing too long is ever built.
func fieldSize(f Field) int {
	n := varintSize(head(f))
	switch f.Type {
	case Eight:
		return n + 8
	case Four:
		return n + 4
	case Bytes:
		return n + varintSize(uint64(len(f.B))) + len(f.B)
	}
	return n + varintSize(f.N)
}

func appendField(b []byte, f Field) []byte {
	b = appendVarint(b, head(f))
	switch f.Type {
	case Eight:
		return appendNumber(b, f.N, 8)
	case Four:
		return appendNumber(b, f.N, 4)
	case Bytes:
		b = appendVarint(b, uint64(len(f.B)))
		return append(b, f.B...)
	}
	return appendVarint(b, f.N)
}

// appendNumber puts the lowest bytes of a number behind b, the lowest first.
func appendNumber(b []byte, n uint64, width int) []byte {
	for range width {
		b = append(b, byte(n))
		n >>= 8
	}
	return b
}
