package wal

import (
	"bytes"
	"encoding/binary"
	"hash/crc32"
	"math"
	"math/rand"
	"slices"
	"testing"

	"belfry/api"
)

// summed puts a sum behind bytes, by another reckoning.
func summed(b []byte) []byte {
	table := crc32.MakeTable(crc32.Castagnoli)
	return binary.LittleEndian.AppendUint32(bytes.Clone(b), crc32.Checksum(b, table))
}

// framed is a frame by another reckoning, of numbers and lengths of any kind.
func framed(seq uint64, b []byte) []byte {
	head := binary.AppendUvarint(binary.AppendUvarint(nil, seq), uint64(len(b)))
	return summed(append(head, b...))
}

// row is frames one behind the other, numbered on from a first number.
func row(first uint64, l ...string) []byte {
	var out []byte
	for i, s := range l {
		out = append(out, framed(first+uint64(i), []byte(s))...)
	}
	return out
}

func texts(l [][]byte) []string {
	var out []string
	for _, b := range l {
		out = append(out, string(b))
	}
	return out
}

// tells holds Frames to what it tells of bytes.
func tells(t *testing.T, what string, b []byte, last uint64, size int, want ...string) {
	t.Helper()
	was := bytes.Clone(b)
	l, n, end := Frames(b)
	if !slices.Equal(texts(l), want) || n != last || end != size {
		t.Errorf("%s: Frames = %q, %d, %d, want %q, %d, %d", what, l, n, end, want, last, size)
	}
	if !bytes.Equal(b, was) {
		t.Errorf("%s: Frames has changed its bytes", what)
	}
}

// Example 1 of the chapter.
func TestFrameExample(t *testing.T) {
	b, e := Frame(1, []byte("a"))
	if e != api.OK || len(b) != 7 || !bytes.Equal(b, summed([]byte{1, 1, 'a'})) {
		t.Errorf("Frame(1, a) = % x, %d", b, e)
	}
}

// P7.1: frames of numbers and lengths at which a varint gets longer.
func TestFrame(t *testing.T) {
	for _, seq := range []uint64{1, 2, 127, 128, 16383, 16384, 1 << 32, 1 << 62, math.MaxUint64} {
		for _, n := range []int{0, 1, 127, 128, 300, 16384, api.MaxFrame - 1, api.MaxFrame} {
			b := bytes.Repeat([]byte{0xa5}, n)
			g, e := Frame(seq, b)
			if e != api.OK || !bytes.Equal(g, framed(seq, b)) {
				t.Errorf("Frame(%d, %d bytes) = %d bytes, %d", seq, n, len(g), e)
			}
			if l, last, end := Frames(g); len(l) != 1 || !bytes.Equal(l[0], b) || last != seq || end != len(g) {
				t.Errorf("Frames of Frame(%d, %d bytes) = %d records, %d, %d", seq, n, len(l), last, end)
			}
		}
	}
	if g, e := Frame(1, nil); e != api.OK || !bytes.Equal(g, summed([]byte{1, 0})) {
		t.Errorf("Frame(1, nil) = % x, %d", g, e)
	}
}

// P7.1: the errors, in their order.
func TestFrameFaults(t *testing.T) {
	long := make([]byte, api.MaxFrame+1)
	for _, c := range []struct {
		seq  uint64
		b    []byte
		want api.Errno
	}{
		{0, nil, api.ErrArg},
		{0, []byte("a"), api.ErrArg},
		{0, long, api.ErrArg},
		{1, long, api.ErrSize},
		{math.MaxUint64, long, api.ErrSize},
		{1, make([]byte, api.MaxFile), api.ErrSize},
	} {
		if g, e := Frame(c.seq, c.b); e != c.want || g != nil {
			t.Errorf("Frame(%d, %d bytes) = %d bytes, %d, want %d", c.seq, len(c.b), len(g), e, c.want)
		}
	}
}

// P7.1, P7.7: frames numbered on are the records, from any first number.
func TestFrames(t *testing.T) {
	tells(t, "nil", nil, 0, 0)
	tells(t, "no bytes", []byte{}, 0, 0)
	for _, first := range []uint64{1, 2, 127, 128, 1 << 40, 1 << 62} {
		b := row(first, "a", "", "bcd")
		tells(t, "three", b, first+2, len(b), "a", "", "bcd")
	}
	b := row(math.MaxUint64-1, "a", "b")
	tells(t, "the greatest number", b, math.MaxUint64, len(b), "a", "b")
	for _, next := range []uint64{0, 1, math.MaxUint64} {
		tells(t, "behind the greatest number", append(bytes.Clone(b), framed(next, []byte("c"))...), math.MaxUint64, len(b), "a", "b")
	}
}

// P7.1: numbers that do not go on by one end the good frames.
func TestFramesNumbers(t *testing.T) {
	begin := row(5, "a", "b")
	for _, next := range []uint64{0, 1, 4, 5, 6, 8, 9, 7 + 1<<32, math.MaxUint64} {
		b := slices.Concat(begin, framed(next, []byte("c")), framed(next+1, []byte("d")))
		tells(t, "another number", b, 6, len(begin), "a", "b")
	}
	tells(t, "the number 0 first", append(framed(0, []byte("a")), framed(1, []byte("b"))...), 0, 0)
}

// P7.1: what would be a frame but for one thing, with a sum that is right.
func TestFramesNotGood(t *testing.T) {
	begin := row(1, "a")
	long := make([]byte, api.MaxFrame+1)
	for what, b := range map[string][]byte{
		"a number that is longer than it must be":   summed([]byte{0x82, 0x00, 1, 'b'}),
		"a length that is longer than it must be":   summed([]byte{2, 0x81, 0x00, 'b'}),
		"a length 0 that is longer than it must be": summed([]byte{2, 0x80, 0x00}),
		"a record that is too long":                 framed(2, long),
		"a length above all":                        summed([]byte{2, 0xff, 0xff, 0xff, 0xff, 0xff, 0xff, 0xff, 0xff, 0xff, 0x01, 'b'}),
		"a length above the greatest int":           summed([]byte{2, 0x80, 0x80, 0x80, 0x80, 0x80, 0x80, 0x80, 0x80, 0x80, 0x01, 'b'}),
		"a number above 64 bits":                    summed([]byte{0x82, 0x80, 0x80, 0x80, 0x80, 0x80, 0x80, 0x80, 0x80, 0x02, 1, 'b'}),
		"a number that does not end":                bytes.Repeat([]byte{0x82}, 30),
		"a number alone":                            {2},
		"a length without bytes":                    {2, 1},
		"bytes 0":                                   make([]byte, 30),
		"another sum":                               append([]byte{2, 1, 'b'}, 0, 0, 0, 0),
		"a sum of the bytes alone":                  append([]byte{2, 1, 'b'}, summed([]byte("b"))[1:]...),
		"a sum with its highest byte first":         turnedSum(framed(2, []byte("b"))),
	} {
		if l, last, end := Frames(b); len(l) != 0 || last != 0 || end != 0 {
			t.Errorf("%s: Frames = %q, %d, %d", what, l, last, end)
		}
		tells(t, what, slices.Concat(begin, b), 1, len(begin), "a")
		// Nothing behind it is told, though it is right.
		tells(t, what, slices.Concat(begin, b, framed(2, []byte("c")), framed(3, []byte("d"))), 1, len(begin), "a")
	}
}

func turnedSum(b []byte) []byte {
	slices.Reverse(b[len(b)-4:])
	return b
}

// P7.1, P7.7: frames cut at any place, and with any bit turned: the frames ahead, and no more.
func TestFramesTorn(t *testing.T) {
	records := []string{"abc", "", "0123456789", "x"}
	b := row(126, records...)
	ends := []int{0}
	for i := range records {
		ends = append(ends, len(row(126, records[:i+1]...)))
	}
	whole := 0
	for at := range len(b) {
		if at == ends[whole+1] {
			whole++
		}
		last := uint64(0)
		if whole > 0 {
			last = 125 + uint64(whole)
		}
		tells(t, "cut", b[:at], last, ends[whole], records[:whole]...)
		tells(t, "cut, and zeros", append(bytes.Clone(b[:at]), make([]byte, 20)...), last, ends[whole], records[:whole]...)
		for bit := range 8 {
			c := bytes.Clone(b)
			c[at] ^= 1 << bit
			tells(t, "a bit turned", c, last, ends[whole], records[:whole]...)
		}
	}
}

// Rule 4: records are new memory, each for itself.
func TestFramesIsNewMemory(t *testing.T) {
	b := row(1, "ab", "cd")
	was := bytes.Clone(b)
	l, _, _ := Frames(b)
	l[0][0] = 'x'
	_ = append(l[0], "yyyyyyyyyyyyyy"...)
	if !bytes.Equal(b, was) || string(l[1]) != "cd" {
		t.Error("what is written into a record is seen elsewhere")
	}
	clear(b)
	if string(l[1]) != "cd" {
		t.Error("the bytes that were handed in are kept")
	}
	in := []byte("ab")
	g, _ := Frame(1, in)
	g[2] = 'x'
	if string(in) != "ab" {
		t.Error("Frame shares memory with its record")
	}
}

// P7.7: records of all kinds are read as they were written, whatever stands behind them.
func TestFramesOfAnyRecords(t *testing.T) {
	r := rand.New(rand.NewSource(1))
	for range 300 {
		first := 1 + r.Uint64()>>(2+r.Intn(62))
		var b []byte
		var want []string
		for i := range r.Intn(8) {
			x := make([]byte, r.Intn(300))
			r.Read(x)
			want = append(want, string(x))
			f, e := Frame(first+uint64(i), x)
			if e != api.OK {
				t.Fatalf("Frame = %d", e)
			}
			b = append(b, f...)
		}
		last := uint64(0)
		if len(want) > 0 {
			last = first + uint64(len(want)) - 1
		}
		tells(t, "records", b, last, len(b), want...)
		if len(want) > 0 {
			tells(t, "records again", slices.Concat(b, b), last, len(b), want...)
		}
	}
}

// P1: any bytes: Frames ends, and what it tells are the frames at their beginning.
func TestFramesOfAnyBytes(t *testing.T) {
	r := rand.New(rand.NewSource(2))
	for range 50000 {
		b := make([]byte, r.Intn(30))
		for i := range b {
			b[i] = byte(r.Intn(256)) >> r.Intn(8)
		}
		if r.Intn(2) == 0 {
			b = summed(b)
		}
		l, last, end := Frames(b)
		var again []byte
		for i, x := range l {
			again = append(again, framed(last-uint64(len(l)-1-i), x)...)
		}
		if !bytes.Equal(again, b[:end]) || (len(l) == 0) != (last == 0) {
			t.Fatalf("Frames(% x) = %q, %d, %d", b, l, last, end)
		}
	}
}
