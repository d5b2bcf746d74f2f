package sha

import (
	"iter"
	"math/bits"
)

const blockSize = 64

// roots are K(0) to K(63): of the cube roots of the first 64 primes.
var roots = [64]uint32{
	0x428a2f98, 0x71374491, 0xb5c0fbcf, 0xe9b5dba5, 0x3956c25b, 0x59f111f1, 0x923f82a4, 0xab1c5ed5,
	0xd807aa98, 0x12835b01, 0x243185be, 0x550c7dc3, 0x72be5d74, 0x80deb1fe, 0x9bdc06a7, 0xc19bf174,
	0xe49b69c1, 0xefbe4786, 0x0fc19dc6, 0x240ca1cc, 0x2de92c6f, 0x4a7484aa, 0x5cb0a9dc, 0x76f988da,
	0x983e5152, 0xa831c66d, 0xb00327c8, 0xbf597fc7, 0xc6e00bf3, 0xd5a79147, 0x06ca6351, 0x14292967,
	0x27b70a85, 0x2e1b2138, 0x4d2c6dfc, 0x53380d13, 0x650a7354, 0x766a0abb, 0x81c2c92e, 0x92722c85,
	0xa2bfe8a1, 0xa81a664b, 0xc24b8b70, 0xc76c51a3, 0xd192e819, 0xd6990624, 0xf40e3585, 0x106aa070,
	0x19a4c116, 0x1e376c08, 0x2748774c, 0x34b0bcb5, 0x391c0cb3, 0x4ed8aa4a, 0x5b9cca4f, 0x682e6ff3,
	0x748f82ee, 0x78a5636f, 0x84c87814, 0x8cc70208, 0x90befffa, 0xa4506ceb, 0xbef9a3f7, 0xc67178f2,
}

// chain is the state behind some blocks, and how many there are of them. The count makes the zero chain, which nobody has begun, differ from every state that there can be.
type chain struct {
	state  [8]uint32
	blocks int64
}

// begin is the chain behind no blocks: of the square roots of the first eight primes.
func begin() chain {
	return chain{state: [8]uint32{
		0x6a09e667, 0xbb67ae85, 0x3c6ef372, 0xa54ff53a,
		0x510e527f, 0x9b05688c, 0x1f83d9ab, 0x5be0cd19,
	}}
}

// blocksOf goes through the whole blocks of b; what is left behind them is no block.
func blocksOf(b []byte) iter.Seq[[blockSize]byte] {
	return func(yield func([blockSize]byte) bool) {
		for left := b; len(left) >= blockSize; left = left[blockSize:] {
			if !yield([blockSize]byte(left)) {
				return
			}
		}
	}
}

// over is the chain behind the whole blocks of b too.
func (c chain) over(b []byte) chain {
	for block := range blocksOf(b) {
		c = c.after(block)
	}
	return c
}

// after is the chain behind one block more.
func (c chain) after(block [blockSize]byte) chain {
	s := c.state
	for i, w := range schedule(block) {
		s = turn(s, roots[i]+w)
	}
	for i := range s {
		c.state[i] += s[i]
	}
	c.blocks++
	return c
}

// end is the chain behind the last bytes, fewer than a block, and what closes a text.
func (c chain) end(rest []byte) chain {
	size := 8 * (uint64(c.blocks)*blockSize + uint64(len(rest)))
	last := make([]byte, 0, 2*blockSize)
	last = append(last, rest...)
	last = append(last, 0x80)
	for len(last)%blockSize != blockSize-8 {
		last = append(last, 0)
	}
	for shift := 56; shift >= 0; shift -= 8 {
		last = append(last, byte(size>>shift))
	}
	return c.over(last)
}

// bytes are the state's numbers, the highest byte of each first.
func (c chain) bytes() [32]byte {
	var out [32]byte
	for i, x := range c.state {
		out[4*i] = byte(x >> 24)
		out[4*i+1] = byte(x >> 16)
		out[4*i+2] = byte(x >> 8)
		out[4*i+3] = byte(x)
	}
	return out
}

// schedule is w(0) to w(63) of a block.
func schedule(block [blockSize]byte) [64]uint32 {
	var w [64]uint32
	for i := range 16 {
		b := block[4*i:]
		w[i] = uint32(b[0])<<24 | uint32(b[1])<<16 | uint32(b[2])<<8 | uint32(b[3])
	}
	for i := 16; i < len(w); i++ {
		w[i] = w[i-16] + mixed(w[i-15], 7, 18, 3) + w[i-7] + mixed(w[i-2], 17, 19, 10)
	}
	return w
}

// turn is the state behind one step, in which kw, a root and a word together, comes in.
func turn(s [8]uint32, kw uint32) [8]uint32 {
	a, b, c, d, e, f, g, h := s[0], s[1], s[2], s[3], s[4], s[5], s[6], s[7]
	chosen := e&f ^ ^e&g
	most := a&b ^ a&c ^ b&c
	t1 := h + turned(e, 6, 11, 25) + chosen + kw
	t2 := turned(a, 2, 13, 22) + most
	return [8]uint32{t1 + t2, a, b, c, d + t1, e, f, g}
}

// turned is x turned to the right by each of three, put together by exclusive or.
func turned(x uint32, i, j, k int) uint32 {
	return bits.RotateLeft32(x, -i) ^ bits.RotateLeft32(x, -j) ^ bits.RotateLeft32(x, -k)
}

// mixed is x turned to the right by i and by j, and shifted by k, put together by exclusive or.
func mixed(x uint32, i, j, k int) uint32 {
	return bits.RotateLeft32(x, -i) ^ bits.RotateLeft32(x, -j) ^ x>>k
}
