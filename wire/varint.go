package wire

import (
	"math/bits"

	"belfry/api"
)

// maxVarint is how many bytes a varint may have; of the last of so many only the lowest bit is within 64.
const maxVarint = 10

// Put tells new memory: b, and behind it the varint of n.
func Put(b []byte, n uint64) []byte {
	out := make([]byte, 0, len(b)+varintSize(n))
	return appendVarint(append(out, b...), n)
}

// Get reads the varint that begins at a place, and tells the place behind it. That the bytes end too early is told ahead of all that the varint might turn out to be.
func Get(b []byte, at int) (uint64, int, api.Errno) {
	if at < 0 || at > len(b) {
		return 0, 0, api.ErrArg
	}
	end, ok := varintEnd(b, at)
	if !ok {
		return 0, 0, api.ErrShort
	}
	n := end - at
	if n > maxVarint || n == maxVarint && b[end-1] > 1 {
		return 0, 0, api.ErrWire
	}
	return joinVarint(b[at:end]), end, api.OK
}

// varintEnd is the place behind the varint that begins at a place; false if the bytes end ahead of it.
func varintEnd(b []byte, at int) (int, bool) {
scan:
	for {
		switch {
		case at == len(b):
			return 0, false
		case b[at] < 0x80:
			break scan
		}
		at++
	}
	return at + 1, true
}

// joinVarint is the number of a varint's bytes.
func joinVarint(b []byte) uint64 {
	var n uint64
	for i := len(b) - 1; i >= 0; i-- {
		n = n<<7 | uint64(b[i]&0x7f)
	}
	return n
}

// appendVarint puts the varint of n behind b, in as few bytes as it can be.
func appendVarint(b []byte, n uint64) []byte {
	for n >= 0x80 {
		b = append(b, byte(n)|0x80)
		n >>= 7
	}
	return append(b, byte(n))
}

// varintSize is how many bytes the varint of n has; that of 0 has one.
func varintSize(n uint64) int {
	return (bits.Len64(n|1) + 6) / 7
}

// Zig tells a signed number as one without a sign: 2n, or -2n - 1 of one below 0.
func Zig(n int64) uint64 {
	if n < 0 {
		// -2n - 1 is 2n with all bits turned; so the least number is right too.
		return ^(uint64(n) << 1)
	}
	return uint64(n) << 1
}

// Zag tells the signed number of which Zig tells n.
func Zag(n uint64) int64 {
	if n&1 == 1 {
		return int64(^(n >> 1))
	}
	return int64(n >> 1)
}
