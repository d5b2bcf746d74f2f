package sha

import (
	"crypto/sha256"
	"encoding"
	"math/rand"
	"slices"
	"testing"

	"belfry/api"
)

func blocksAsList(s *Stream) [][32]byte {
	return slices.Collect(s.Blocks())
}

// wantBlocks are the states behind the whole blocks of b, as the library's digest holds them.
func wantBlocks(t *testing.T, b []byte) [][32]byte {
	t.Helper()
	var out [][32]byte
	h := sha256.New()
	for ; len(b) >= 64; b = b[64:] {
		h.Write(b[:64])
		inner, err := h.(encoding.BinaryMarshaler).MarshalBinary()
		if err != nil {
			t.Fatal(err)
		}
		out = append(out, [32]byte(inner[4:36]))
	}
	return out
}

// isOf asks whether a stream is one of just these bytes.
func isOf(t *testing.T, s *Stream, b []byte) {
	t.Helper()
	if got, want := s.Sum(), sha256.Sum256(b); got != want {
		t.Fatalf("Sum of %d bytes = %x, want %x", len(b), got, want)
	}
	if s.Len() != int64(len(b)) {
		t.Fatalf("Len = %d, want %d", s.Len(), len(b))
	}
	if got, want := blocksAsList(s), wantBlocks(t, b); !slices.Equal(got, want) {
		t.Fatalf("Blocks of %d bytes = %x, want %x", len(b), got, want)
	}
}

// P3.2: a stream has the bytes that were written, however many; none at first.
func TestStreamAtOnce(t *testing.T) {
	isOf(t, New(), nil)
	r := rand.New(rand.NewSource(34))
	for _, n := range []int{0, 1, 55, 56, 57, 63, 64, 65, 119, 120, 127, 128, 129, 191, 192, 193, 1000, 4096} {
		b := randomBytes(r, n)
		s := New()
		if e := s.Write(b); e != api.OK {
			t.Fatalf("Write = %d", e)
		}
		isOf(t, s, b)
	}
}

// P3.2, P3.3: in two pieces, cut everywhere; and told behind each.
func TestStreamCuts(t *testing.T) {
	b := randomBytes(rand.New(rand.NewSource(35)), 200)
	for n := range b {
		s := New()
		s.Write(b[:n])
		isOf(t, s, b[:n])
		s.Write(nil)
		s.Write(b[n:])
		isOf(t, s, b)
	}
}

// P3.3: byte by byte, and in pieces of any lengths, come to the same as at once.
func TestStreamPieces(t *testing.T) {
	r := rand.New(rand.NewSource(36))
	for range 200 {
		b := randomBytes(r, r.Intn(600))
		s := New()
		greatest := 1 + r.Intn(200)
		for left := b; len(left) > 0; {
			n := min(len(left), r.Intn(greatest)+r.Intn(2))
			piece := slices.Clone(left[:n])
			s.Write(piece)
			clear(piece) // what was handed in is not kept
			left = left[n:]
		}
		isOf(t, s, b)
	}
	s, b := New(), randomBytes(r, 300)
	for i := range b {
		s.Write(b[i : i+1])
		isOf(t, s, b[:i+1])
	}
}

// P3.2: to tell the digest changes nothing, and more can be written behind it.
func TestStreamSumGoesOn(t *testing.T) {
	s := New()
	s.Write([]byte("a"))
	if s.Sum() != Sum([]byte("a")) || s.Sum() != Sum([]byte("a")) {
		t.Error("Sum of a")
	}
	s.Write([]byte("bc"))
	if s.Sum() != Sum([]byte("abc")) {
		t.Error("Sum of abc")
	}
}

// P3.2: behind Reset there are no bytes, and what comes is as of a new one.
func TestStreamReset(t *testing.T) {
	r := rand.New(rand.NewSource(37))
	s := New()
	for _, n := range []int{0, 5, 64, 100, 130, 640} {
		s.Write(randomBytes(r, n))
		s.Reset()
		isOf(t, s, nil)
		b := randomBytes(r, n+3)
		s.Write(b)
		isOf(t, s, b)
		s.Reset()
	}
}

// P3.3: a copy, and what it was made of, go their own ways.
func TestStreamCopy(t *testing.T) {
	r := rand.New(rand.NewSource(38))
	for _, n := range []int{0, 1, 63, 64, 65, 128, 150, 64 * 5, 64*8 + 7} {
		b, one, other := randomBytes(r, n), randomBytes(r, 200), randomBytes(r, 200)
		s := New()
		s.Write(b)
		c := s.Copy()
		isOf(t, c, b)
		s.Write(one)
		isOf(t, c, b)
		c.Write(other)
		isOf(t, s, slices.Concat(b, one))
		isOf(t, c, slices.Concat(b, other))
		d := c.Copy()
		c.Reset()
		isOf(t, d, slices.Concat(b, other))
		isOf(t, c, nil)
		isOf(t, s, slices.Concat(b, one))
	}
}

// P3.5: the states of whole blocks are those of any text that begins with them.
func TestBlocksOfBeginnings(t *testing.T) {
	r := rand.New(rand.NewSource(39))
	b := randomBytes(r, 64*6)
	s := New()
	s.Write(b)
	whole := blocksAsList(s)
	if len(whole) != 6 {
		t.Fatalf("%d blocks, want 6", len(whole))
	}
	for n := range len(b) + 1 {
		s := New()
		s.Write(b[:n])
		if got := blocksAsList(s); !slices.Equal(got, whole[:n/64]) {
			t.Fatalf("Blocks of the first %d bytes = %x", n, got)
		}
		s.Write(randomBytes(r, 100))
		if got := blocksAsList(s); !slices.Equal(got[:n/64], whole[:n/64]) || len(got) != (n+100)/64 {
			t.Fatalf("Blocks of the first %d bytes and more = %x", n, got)
		}
	}
}

// P3.2: Blocks are those so far: what is written, copied or reset behind the call plays no part, and they can be gone through again, or left.
func TestBlocksSoFar(t *testing.T) {
	r := rand.New(rand.NewSource(40))
	b := randomBytes(r, 64*3+10)
	s := New()
	s.Write(b)
	seq, want := s.Blocks(), wantBlocks(t, b)
	s.Write(randomBytes(r, 200))
	if !slices.Equal(slices.Collect(seq), want) {
		t.Error("a Write behind Blocks is seen")
	}
	s.Reset()
	s.Write(randomBytes(r, 400))
	if !slices.Equal(slices.Collect(seq), want) {
		t.Error("a Reset behind Blocks is seen")
	}
	n := 0
	for d := range seq {
		s.Write(randomBytes(r, 64))
		if d != want[n] {
			t.Errorf("block %d = %x, want %x", n, d, want[n])
		}
		if n++; n == 2 {
			break
		}
	}
	if n != 2 {
		t.Errorf("%d blocks until the break, want 2", n)
	}
}

// P3.2, P1: of a nil stream.
func TestNilStream(t *testing.T) {
	var s *Stream
	if e := s.Write([]byte("a")); e != api.ErrNil {
		t.Errorf("Write = %d", e)
	}
	if e := s.Write(nil); e != api.ErrNil {
		t.Errorf("Write of nothing = %d", e)
	}
	if s.Sum() != [32]byte{} || s.Len() != 0 || s.Copy() != nil || len(blocksAsList(s)) != 0 {
		t.Error("a nil stream has something")
	}
	s.Reset()
}

// P1: a stream that was not made by New is one without bytes.
func TestZeroStream(t *testing.T) {
	var s Stream
	isOf(t, &s, nil)
	isOf(t, s.Copy(), nil)
	b := randomBytes(rand.New(rand.NewSource(41)), 150)
	s.Write(b)
	isOf(t, &s, b)
	var other Stream
	other.Reset()
	isOf(t, &other, nil)
}
