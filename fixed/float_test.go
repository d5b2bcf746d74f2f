package fixed

import (
	"math"
	"math/big"
	"math/rand"
	"testing"

	"belfry/api"
)

// floatModel reckons with big floats that are wide enough to be exact.
func floatModel(f float64) int64 {
	switch {
	case math.IsInf(f, 1):
		return Top
	case math.IsInf(f, -1):
		return -Top
	}
	x := new(big.Float).SetPrec(2000).SetFloat64(f)
	x.Mul(x, new(big.Float).SetInt64(api.One))
	n, _ := x.Int(nil)
	return saturated(n)
}

func checkFloat(t *testing.T, bits uint64) {
	t.Helper()
	g, e := Float(bits)
	f := math.Float64frombits(bits)
	if math.IsNaN(f) {
		if g != 0 || e != api.ErrArg {
			t.Errorf("Float(%#x) = %d, %d, want ErrArg", bits, g, e)
		}
		return
	}
	if w := floatModel(f); g != w || e != api.OK {
		t.Errorf("Float(%#x) of %g = %d, %d, want %d", bits, f, g, e, w)
	}
}

// P1.2: floats by name: 0s, infinities, ones that are no number, the smallest, the greatest, and those at the bounds.
func TestFloatEdges(t *testing.T) {
	for _, c := range []struct {
		f    float64
		want int64
	}{
		{0, 0}, {math.Copysign(0, -1), 0},
		{1, api.One}, {-1, -api.One}, {1.5, 1500000}, {-2.25, -2250000},
		{0.1, 100000}, {-0.1, -100000}, {0.3, 299999}, {0.0000019, 1}, {-0.0000019, -1}, {0.0000009, 0}, {-0.0000009, 0},
		{math.SmallestNonzeroFloat64, 0}, {-math.SmallestNonzeroFloat64, 0},
		{math.MaxFloat64, Top}, {-math.MaxFloat64, -Top},
		{math.Inf(1), Top}, {math.Inf(-1), -Top},
		{9223372036854, 9223372036854000000}, {9223372036855, Top}, {-9223372036855, -Top},
		{1 << 52, Top}, {1 << 53, Top}, {-(1 << 53), -Top}, {1 << 43, 8796093022208000000},
	} {
		if g, e := Float(math.Float64bits(c.f)); g != c.want || e != api.OK {
			t.Errorf("Float of %g = %d, %d, want %d", c.f, g, e, c.want)
		}
	}
	for _, bits := range []uint64{0x7ff0000000000001, 0x7ff8000000000000, 0x7fffffffffffffff, 0xfff0000000000001, 0xfff8000000000000, math.MaxUint64} {
		if g, e := Float(bits); g != 0 || e != api.ErrArg {
			t.Errorf("Float(%#x) = %d, %d, want ErrArg", bits, g, e)
		}
	}
}

// P1.2: exactly, at every exponent, at the neighbours of round values, and at any bits.
func TestFloatExact(t *testing.T) {
	r := rand.New(rand.NewSource(2))
	for exponent := range uint64(1 << 11) {
		for _, fraction := range []uint64{0, 1, 1<<52 - 1, r.Uint64() >> 12} {
			bits := exponent<<52 | fraction
			checkFloat(t, bits)
			checkFloat(t, bits|1<<63)
		}
	}
	for _, a := range numbers() {
		bits := math.Float64bits(float64(a) / api.One)
		checkFloat(t, bits)
		checkFloat(t, bits-1)
		checkFloat(t, bits+1)
	}
	for range 20000 {
		checkFloat(t, r.Uint64())
	}
}
