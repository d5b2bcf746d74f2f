package wire

// The sum is CRC-32C: its register begins with all bits set, and is turned by this polynomial (its bits in reverse).
const (
	sumBegin = 0xffffffff
	sumTurn  = 0x82f63b78
)

// Sum tells the check sum of bytes.
func Sum(b []byte) uint32 {
	r := uint32(sumBegin)
	for _, c := range b {
		r = sumByte(r ^ uint32(c))
	}
	return ^r
}

// sumByte shifts the register by the eight bits of a byte that was put in.
func sumByte(r uint32) uint32 {
	for range 8 {
		out := r & 1
		r >>= 1
		if out == 1 {
			r ^= sumTurn
		}
	}
	return r
}
