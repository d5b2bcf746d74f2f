// Package fixed is layer 1: fixed numbers. They are whole numbers of millionths, from -Top to Top; what would be beyond is held at these bounds.
package fixed

import (
	"math/bits"

	"belfry/api"
)

// Top is the greatest number.
const Top = 1<<63 - 1

// Add tells the sum, held within the bounds.
func Add(a, b int64) int64 {
	a, b = taken(a), taken(b)
	switch {
	case b > 0 && a > Top-b:
		return Top
	case b < 0 && a < -Top-b:
		return -Top
	}
	return a + b
}

// Sub tells the difference, held within the bounds.
func Sub(a, b int64) int64 {
	return Add(a, Neg(b))
}

// Neg tells the number with its sign turned.
func Neg(a int64) int64 {
	return -taken(a)
}

// Abs tells the number without its sign.
func Abs(a int64) int64 {
	a = taken(a)
	if a < 0 {
		return -a
	}
	return a
}

// Mul tells the product, cut off towards 0 and held within the bounds.
func Mul(a, b int64) int64 {
	return signed(ratio(size(a), size(b), api.One), (a < 0) != (b < 0))
}

// Div tells the quotient, cut off towards 0 and held within the bounds; ErrZero if b is 0.
func Div(a, b int64) (int64, api.Errno) {
	if b == 0 {
		return 0, api.ErrZero
	}
	return signed(ratio(size(a), api.One, size(b)), (a < 0) != (b < 0)), api.OK
}

// Sum adds from the left, so that a sum which met a bound goes on from that bound.
func Sum(l ...int64) int64 {
	var s int64
	for _, a := range l {
		s = Add(s, a)
	}
	return s
}

// Of tells a whole number as a fixed one, held within the bounds.
func Of(n int64) int64 {
	return signed(ratio(size(n), api.One, 1), n < 0)
}

// Whole tells the whole part, cut off towards 0.
func Whole(v int64) int64 {
	return taken(v) / api.One
}

// Cmp tells -1, 0 or 1, as a is less than b, the same or greater.
func Cmp(a, b int64) int {
	a, b = taken(a), taken(b)
	switch {
	case a < b:
		return -1
	case a > b:
		return 1
	}
	return 0
}

// taken is a number as the layer takes it: the least whole number has no counterpart above 0, so it stands for -Top.
func taken(a int64) int64 {
	if a < -Top {
		return -Top
	}
	return a
}

// size is a number without its sign, in the kind in which products are reckoned.
func size(a int64) uint64 {
	return uint64(Abs(a))
}

// signed gives a size its sign, and holds it within the bounds.
func signed(size uint64, minus bool) int64 {
	v := int64(min(size, Top))
	if minus {
		return -v
	}
	return v
}

// ratio is a times b divided by c, which is not 0; the product is kept in 128 bits, so that nothing is lost ahead of the division. A quotient above 64 bits is told as the greatest of 64 bits: it is beyond the bounds either way.
func ratio(a, b, c uint64) uint64 {
	hi, lo := bits.Mul64(a, b)
	if hi >= c {
		return 1<<64 - 1
	}
	q, _ := bits.Div64(hi, lo, c)
	return q
}
