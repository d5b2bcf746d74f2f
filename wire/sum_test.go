package wire

import (
	"bytes"
	"hash/crc32"
	"math/rand"
	"testing"
)

// P2.4: the sum, by its known values and by another reckoning.
func TestSum(t *testing.T) {
	for s, want := range map[string]uint32{
		"": 0, "a": 0xc1d04330, "123456789": 0xe3069283, string(make([]byte, 32)): 0x8a9136aa, string(bytes.Repeat([]byte{0xff}, 32)): 0x62a8ab43,
	} {
		if g := Sum([]byte(s)); g != want {
			t.Errorf("Sum(%q) = %#x, want %#x", s, g, want)
		}
	}
	if Sum(nil) != 0 {
		t.Error("the sum of none is not 0")
	}
	table := crc32.MakeTable(crc32.Castagnoli)
	r := rand.New(rand.NewSource(9))
	for range 500 {
		b := make([]byte, r.Intn(600))
		r.Read(b)
		if g, want := Sum(b), crc32.Checksum(b, table); g != want {
			t.Errorf("Sum(% x) = %#x, want %#x", b, g, want)
		}
	}
}

// P2.8: with one bit turned it is another one.
func TestSumOfOneBit(t *testing.T) {
	r := rand.New(rand.NewSource(10))
	for _, n := range []int{1, 2, 7, 64, 300} {
		b := make([]byte, n)
		r.Read(b)
		was := Sum(b)
		for i := range 8 * n {
			b[i/8] ^= 1 << (i % 8)
			if Sum(b) == was {
				t.Errorf("of %d bytes, bit %d turned: the same sum", n, i)
			}
			b[i/8] ^= 1 << (i % 8)
		}
	}
}
