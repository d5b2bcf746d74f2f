package wire

import (
	"bytes"
	"encoding/binary"
	"math"
	"math/big"
	"math/rand"
	"slices"
	"testing"

	"belfry/api"
)

// ends are numbers at which a varint gets longer, and the bounds.
func ends() []uint64 {
	l := []uint64{0, 1, 2, 150, 300, math.MaxUint64 - 1, math.MaxUint64, math.MaxInt64, 1 << 63, math.MaxUint32, 1 << 32}
	for i := range 10 {
		n := uint64(1) << (7 * i)
		l = append(l, n-1, n, n+1)
	}
	return l
}

// P2.1: in as few bytes as can be, in new memory.
func TestPut(t *testing.T) {
	for _, n := range ends() {
		want := binary.AppendUvarint([]byte("ab"), n)
		if g := Put([]byte("ab"), n); !bytes.Equal(g, want) {
			t.Errorf("Put(ab, %d) = % x, want % x", n, g, want)
		}
	}
	if g := Put(nil, 300); !bytes.Equal(g, []byte{0xac, 0x02}) {
		t.Errorf("Put(nil, 300) = % x", g)
	}
	if g := Put(nil, math.MaxUint64); len(g) != 10 || g[9] != 1 {
		t.Errorf("Put(nil, greatest) = % x", g)
	}
}

func TestPutIsNewMemory(t *testing.T) {
	room := []byte{1, 2, 7, 7, 7}
	g := Put(room[:2], 300)
	if !bytes.Equal(room, []byte{1, 2, 7, 7, 7}) {
		t.Errorf("Put wrote behind what was handed in: %v", room)
	}
	g[0] = 9
	if room[0] != 1 {
		t.Error("Put shares memory with what was handed in")
	}
	room[1] = 8
	if g[1] != 2 {
		t.Error("Put keeps what was handed in")
	}
}

// getModel reads by whole numbers of any size.
func getModel(b []byte, at int) (uint64, int, api.Errno) {
	if at < 0 || at > len(b) {
		return 0, 0, api.ErrArg
	}
	n := slices.IndexFunc(b[at:], func(c byte) bool { return c < 0x80 })
	if n < 0 {
		return 0, 0, api.ErrShort
	}
	x := new(big.Int)
	for i, c := range b[at : at+n+1] {
		part := big.NewInt(int64(c & 0x7f))
		x.Or(x, part.Lsh(part, uint(7*i)))
	}
	if n+1 > 10 || !x.IsUint64() {
		return 0, 0, api.ErrWire
	}
	return x.Uint64(), at + n + 1, api.OK
}

func checkGet(t *testing.T, b []byte, at int) {
	t.Helper()
	n, end, e := Get(b, at)
	if wn, wend, we := getModel(b, at); n != wn || end != wend || e != we {
		t.Errorf("Get(% x, %d) = %d, %d, %d, want %d, %d, %d", b, at, n, end, e, wn, wend, we)
	}
}

func repeated(c byte, n int, more ...byte) []byte {
	return append(bytes.Repeat([]byte{c}, n), more...)
}

// P2.1: varints longer than they must be, of ten bytes, of more, above 64 bits, and ones that do not end.
func TestGetEdges(t *testing.T) {
	for _, c := range []struct {
		b   []byte
		at  int
		n   uint64
		end int
		e   api.Errno
	}{
		{[]byte{0}, 0, 0, 1, api.OK},
		{[]byte{0x7f}, 0, 127, 1, api.OK},
		{[]byte{0xac, 0x02}, 0, 300, 2, api.OK},
		{[]byte{9, 0xac, 0x02, 9}, 1, 300, 3, api.OK},
		{[]byte{0x80, 0}, 0, 0, 2, api.OK},
		{[]byte{0x81, 0x80, 0x80, 0}, 0, 1, 4, api.OK},
		{repeated(0x80, 9, 0), 0, 0, 10, api.OK},
		{repeated(0x80, 9, 1), 0, 1 << 63, 10, api.OK},
		{repeated(0xff, 9, 0), 0, 1<<63 - 1, 10, api.OK},
		{repeated(0xff, 9, 1), 0, math.MaxUint64, 10, api.OK},
		{repeated(0x80, 9, 2), 0, 0, 0, api.ErrWire},
		{repeated(0xff, 9, 0x7f), 0, 0, 0, api.ErrWire},
		{repeated(0x80, 9, 0x40), 0, 0, 0, api.ErrWire},
		{repeated(0x80, 10, 0), 0, 0, 0, api.ErrWire},
		{repeated(0x80, 10, 1), 0, 0, 0, api.ErrWire},
		{repeated(0x80, 40, 0, 5), 0, 0, 0, api.ErrWire},
		{repeated(0x80, 1), 0, 0, 0, api.ErrShort},
		{repeated(0xff, 9), 0, 0, 0, api.ErrShort},
		{repeated(0x80, 10), 0, 0, 0, api.ErrShort},
		{repeated(0xff, 11), 0, 0, 0, api.ErrShort},
		{nil, 0, 0, 0, api.ErrShort},
		{[]byte{1}, 1, 0, 0, api.ErrShort},
		{nil, 1, 0, 0, api.ErrArg},
		{nil, -1, 0, 0, api.ErrArg},
		{[]byte{1}, 2, 0, 0, api.ErrArg},
		{[]byte{1}, -1, 0, 0, api.ErrArg},
		{[]byte{1}, math.MaxInt, 0, 0, api.ErrArg},
		{[]byte{1}, math.MinInt, 0, 0, api.ErrArg},
	} {
		if n, end, e := Get(c.b, c.at); n != c.n || end != c.end || e != c.e {
			t.Errorf("Get(% x, %d) = %d, %d, %d, want %d, %d, %d", c.b, c.at, n, end, e, c.n, c.end, c.e)
		}
	}
}

// P1, P2.1: any bytes at any place.
func TestGetAnyBytes(t *testing.T) {
	r := rand.New(rand.NewSource(1))
	for range 50000 {
		b := make([]byte, r.Intn(16))
		for i := range b {
			b[i] = byte(r.Intn(256))
			if r.Intn(8) > 0 {
				b[i] |= 0x80
			}
			if r.Intn(3) == 0 {
				b[i] &= 0x81
			}
		}
		checkGet(t, b, r.Intn(len(b)+4)-2)
	}
}

// P2.5, P9: what was put is got again.
func TestGetOfPut(t *testing.T) {
	r := rand.New(rand.NewSource(2))
	l := ends()
	for range 10000 {
		l = append(l, r.Uint64()>>r.Intn(64))
	}
	for _, n := range l {
		b := append(Put([]byte{0xff, 0xff}, n), 0xff)
		if g, end, e := Get(b, 2); g != n || end != len(b)-1 || e != api.OK {
			t.Errorf("Get of Put of %d = %d, %d, %d", n, g, end, e)
		}
	}
}

// P2.1, P2.5: zigzag, and back.
func TestZigZag(t *testing.T) {
	for n, want := range map[int64]uint64{
		0: 0, -1: 1, 1: 2, -2: 3, 2: 4, 150: 300, -150: 299,
		math.MaxInt64: math.MaxUint64 - 1, math.MinInt64: math.MaxUint64, math.MinInt64 + 1: math.MaxUint64 - 2,
	} {
		if g := Zig(n); g != want {
			t.Errorf("Zig(%d) = %d, want %d", n, g, want)
		}
		if g := Zag(want); g != n {
			t.Errorf("Zag(%d) = %d, want %d", want, g, n)
		}
	}
	r := rand.New(rand.NewSource(3))
	for range 10000 {
		n := int64(r.Uint64()) >> r.Intn(64)
		if g := Zag(Zig(n)); g != n {
			t.Errorf("Zag of Zig of %d = %d", n, g)
		}
		if u := uint64(n); Zig(Zag(u)) != u {
			t.Errorf("Zig of Zag of %d = %d", u, Zig(Zag(u)))
		}
	}
}
