package wire

import (
	"bytes"

	"belfry/api"
)

// Read tells a message's fields, in order; or the first fault from the left, and the place at which its field begins.
func Read(b []byte) ([]Field, api.Errno, int) {
	if len(b) > api.MaxFile {
		return nil, api.ErrSize, 0
	}
	var l []Field
	for at := 0; at < len(b); {
		if len(l) == api.MaxFields {
			return nil, api.ErrFull, at
		}
		f, end, e := readField(b, at)
		if e != api.OK {
			return nil, e, at
		}
		l = append(l, f)
		at = end
	}
	return l, api.OK, 0
}

// readField reads the field that begins at a place, and tells the place behind it. It looks at the first varint, the number, the type and what follows, in this order: the first one that is wrong tells the error.
func readField(b []byte, at int) (Field, int, api.Errno) {
	head, at, e := Get(b, at)
	if e != api.OK {
		return Field{}, 0, e
	}
	f := Field{Num: int(head >> 3), Type: int(head & 7)}
	if !rightHead(f.Num, f.Type) {
		return Field{}, 0, api.ErrWire
	}
	switch f.Type {
	case Varint:
		f.N, at, e = Get(b, at)
	case Eight:
		f.N, at, e = readNumber(b, at, 8)
	case Four:
		f.N, at, e = readNumber(b, at, 4)
	case Bytes:
		f.B, at, e = readBytes(b, at)
	}
	if e != api.OK {
		return Field{}, 0, e
	}
	return f, at, api.OK
}

// readNumber reads a number of so many bytes, and tells the place behind it.
func readNumber(b []byte, at, width int) (uint64, int, api.Errno) {
	if len(b)-at < width {
		return 0, 0, api.ErrShort
	}
	end := at + width
	return joinBytes(b[at:end]), end, api.OK
}

// readBytes reads a length and as many bytes, and tells the place behind them. The bytes are new memory.
func readBytes(b []byte, at int) ([]byte, int, api.Errno) {
	n, at, e := Get(b, at)
	if e != api.OK {
		return nil, 0, e
	}
	// Compared without a sign: a length may be above every int.
	if n > uint64(len(b)-at) {
		return nil, 0, api.ErrShort
	}
	end := at + int(n)
	return bytes.Clone(b[at:end]), end, api.OK
}

// joinBytes is the number of eight or of four bytes, the lowest of which is the first: the highest one is taken first, and those of eight go on as those of four.
func joinBytes(b []byte) uint64 {
	var n uint64
	switch len(b) {
	case 8:
		n = n<<8 | uint64(b[7])
		n = n<<8 | uint64(b[6])
		n = n<<8 | uint64(b[5])
		n = n<<8 | uint64(b[4])
		fallthrough
	case 4:
		n = n<<8 | uint64(b[3])
		n = n<<8 | uint64(b[2])
		n = n<<8 | uint64(b[1])
		n = n<<8 | uint64(b[0])
	}
	return n
}
