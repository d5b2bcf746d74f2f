package sha

import (
	"bytes"
	"crypto/sha256"
	"encoding/hex"
	"math/big"
	"math/rand"
	"strings"
	"testing"

	"belfry/api"
)

func randomBytes(r *rand.Rand, n int) []byte {
	b := make([]byte, n)
	r.Read(b)
	return b
}

// P3.1: the chapter's examples, and known digests of longer texts.
func TestSumExamples(t *testing.T) {
	for _, c := range []struct{ text, want string }{
		{"", "e3b0c44298fc1c149afbf4c8996fb92427ae41e4649b934ca495991b7852b855"},
		{"abc", "ba7816bf8f01cfea414140de5dae2223b00361a396177a9cb410ff61f20015ad"},
		{"abcdbcdecdefdefgefghfghighijhijkijkljklmklmnlmnomnopnopq", "248d6a61d20638b8e5c026930c3e6039a33ce45964ff2167f6ecedd419db06c1"},
		{strings.Repeat("a", 1000000), "cdc76e5c9914fb9281a1c7e284d73e67f1809a48a497200e046d39ccc7112cd0"},
	} {
		if got := Hex(Sum([]byte(c.text))); got != c.want {
			t.Errorf("Sum of %d bytes = %s, want %s", len(c.text), got, c.want)
		}
	}
	if Sum(nil) != Sum([]byte{}) {
		t.Error("a nil list is not an empty one")
	}
}

// fraction is the first 32 bits behind the point of a prime's root.
func fraction(prime int64, root int) uint32 {
	scaled := new(big.Int).Lsh(big.NewInt(prime), uint(32*root))
	low, high := big.NewInt(0), new(big.Int).Lsh(big.NewInt(1), 48)
	for new(big.Int).Sub(high, low).Cmp(big.NewInt(1)) > 0 {
		mid := new(big.Int).Rsh(new(big.Int).Add(low, high), 1)
		if new(big.Int).Exp(mid, big.NewInt(int64(root)), nil).Cmp(scaled) > 0 {
			high = mid
		} else {
			low = mid
		}
	}
	return uint32(low.Uint64())
}

// P3.1: the numbers that come of the primes' roots.
func TestRoots(t *testing.T) {
	i := 0
	for p := int64(2); i < len(roots); p++ {
		if !big.NewInt(p).ProbablyPrime(0) {
			continue
		}
		if roots[i] != fraction(p, 3) {
			t.Errorf("K(%d) = %#x, want %#x", i, roots[i], fraction(p, 3))
		}
		if i < 8 && begin().state[i] != fraction(p, 2) {
			t.Errorf("number %d of the first state = %#x, want %#x", i, begin().state[i], fraction(p, 2))
		}
		i++
	}
}

// P3.1: texts of every length about one, two, three blocks' ends, and longer ones.
func TestSumLengths(t *testing.T) {
	r := rand.New(rand.NewSource(31))
	lengths := []int{4095, 4096, 4097, 65535, 65536, 65537}
	for n := range 260 {
		lengths = append(lengths, n)
	}
	for _, n := range lengths {
		b := randomBytes(r, n)
		as := bytes.Clone(b)
		if got, want := Sum(b), sha256.Sum256(b); got != want {
			t.Errorf("Sum of %d bytes = %x, want %x", n, got, want)
		}
		if !bytes.Equal(b, as) {
			t.Errorf("Sum changed its %d bytes", n)
		}
	}
}

// P3.1: each bit of a text counts.
func TestSumBits(t *testing.T) {
	b := make([]byte, 70)
	seen := map[[32]byte]int{Sum(b): -1}
	for i := range 8 * len(b) {
		b[i/8] ^= 1 << (i % 8)
		d := Sum(b)
		if other, ok := seen[d]; ok {
			t.Errorf("the bits %d and %d turned give one digest", i, other)
		}
		seen[d] = i
		b[i/8] ^= 1 << (i % 8)
	}
}

// P3.1: the digest of two digests is that of their 64 bytes, the first one's first.
func TestPair(t *testing.T) {
	r := rand.New(rand.NewSource(32))
	for range 50 {
		a, b := [32]byte(randomBytes(r, 32)), [32]byte(randomBytes(r, 32))
		want := sha256.Sum256(append(bytes.Clone(a[:]), b[:]...))
		if got := Pair(a, b); got != want {
			t.Fatalf("Pair(%x, %x) = %x, want %x", a, b, got, want)
		}
		if Pair(a, b) == Pair(b, a) {
			t.Fatalf("the order of %x, %x plays no part", a, b)
		}
	}
	if got := Pair([32]byte{}, [32]byte{}); got != sha256.Sum256(make([]byte, 64)) {
		t.Errorf("Pair of all 0 = %x", got)
	}
}

// P3.1, P3.4: digits in small letters, and back from small, capital and mixed ones.
func TestHexAndBack(t *testing.T) {
	r := rand.New(rand.NewSource(33))
	list := [][32]byte{{}, {31: 1}, {0: 0xf0}, Sum(nil)}
	for range 200 {
		list = append(list, [32]byte(randomBytes(r, 32)))
	}
	for _, d := range list {
		s := Hex(d)
		if want := hex.EncodeToString(d[:]); s != want {
			t.Fatalf("Hex(%x) = %s, want %s", d, s, want)
		}
		mixed := strings.ToUpper(s[:20]) + s[20:]
		for _, x := range []string{s, strings.ToUpper(s), mixed} {
			if got, e := Unhex(x); got != d || e != api.OK {
				t.Fatalf("Unhex(%s) = %x, %d", x, got, e)
			}
		}
	}
}

// P3.1: too few digits, too many, and every byte that is no digit, at every place; P1: with the error all is 0.
func TestUnhexFaults(t *testing.T) {
	right := strings.Repeat("9f", 32)
	wrong := []string{"", "0", "9f", right[:62], right[:63], right + "0", right + "00", right + right, " " + right, right + "\n", right[:63] + "\n", "0x" + right[:62], strings.Repeat("\u00e9", 32)}
	for _, s := range wrong {
		if d, e := Unhex(s); e != api.ErrForm || d != [32]byte{} {
			t.Errorf("Unhex(%q) = %x, %d", s, d, e)
		}
	}
	for x := range 256 {
		isDigit := strings.IndexByte("0123456789abcdefABCDEF", byte(x)) >= 0
		for at := range 64 {
			s := right[:at] + string([]byte{byte(x)}) + right[at+1:]
			d, e := Unhex(s)
			if (e == api.OK) != isDigit {
				t.Fatalf("Unhex(%q) = %x, %d", s, d, e)
			}
			if e != api.OK && (e != api.ErrForm || d != [32]byte{}) {
				t.Fatalf("Unhex(%q) = %x, %d", s, d, e)
			}
		}
	}
}
