package fixed

import (
	"math/bits"

	"belfry/api"
)

// The parts of a float64's bits: 52 of the fraction, 11 of the exponent, the sign.
const (
	fractionBits = 52
	fractionMask = 1<<fractionBits - 1
	exponentMask = 1<<11 - 1
	// pointPlace is what an exponent is ahead of the power of 2 by which the fraction, as a whole number, is multiplied.
	pointPlace = 1023 + fractionBits
)

// Float tells the float64 of these bits as a fixed number, cut off towards 0 and held within the bounds; ErrArg if it is no number. It works on the bits, so that no rounding of floats comes in.
func Float(bits uint64) (int64, api.Errno) {
	fraction := bits & fractionMask
	exponent := int(bits >> fractionBits & exponentMask)
	minus := bits>>63 == 1
	switch {
	case exponent == exponentMask && fraction != 0:
		return 0, api.ErrArg
	case exponent >= pointPlace:
		// At least 2^52, hence far above Top's nine million million; infinities too.
		return signed(Top, minus), api.OK
	case exponent == 0:
		// So near to 0 that no millionth is left.
		return 0, api.OK
	}
	return signed(millionthsOf(fraction|1<<fractionBits, uint(pointPlace-exponent)), minus), api.OK
}

// millionthsOf is a million times m, divided by 2^down (at least 1) and cut off; what is above 64 bits is told as the greatest of 64 bits.
func millionthsOf(m uint64, down uint) uint64 {
	hi, lo := bits.Mul64(m, api.One)
	switch {
	case down >= 64:
		return hi >> (down - 64)
	case hi>>down != 0:
		return 1<<64 - 1
	}
	return lo>>down | hi<<(64-down)
}
