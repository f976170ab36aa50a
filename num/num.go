// Package num is layer 1: floats of 64 bits with one NaN, one order, and texts.
package num

import (
	"math"
	"strconv"

	"skerry/api"
)

const (
	nanBits    = 0x7ff8000000000001
	signBit    = 1 << 63
	textDigits = 16
	pastInts   = 1 << 63 // the first float above all whole numbers of 64 bits
)

// Canon (P1.1) leaves one NaN of many, so that equal floats have equal bytes.
func Canon(x float64) float64 {
	if math.IsNaN(x) {
		return nan()
	}
	return x
}

// Same (P1.1) holds bits, not values: == would take the noughts for one, and the NaN for none.
func Same(a, b float64) bool {
	return math.Float64bits(Canon(a)) == math.Float64bits(Canon(b))
}

// Less (P1.1) is the order in which every float has its place, unlike <.
func Less(a, b float64) bool {
	return rank(a) < rank(b)
}

// Add is P1.2.
func Add(a, b float64) float64 {
	return Canon(a + b)
}

// Max (P1.2) needs no case for the NaN: it stands behind all others.
func Max(a, b float64) float64 {
	if Less(a, b) {
		return Canon(b)
	}
	return Canon(a)
}

// Mean (P1.2) starts from nought, so that minus noughts alone have the mean nought.
func Mean(l []float64) float64 {
	if len(l) == 0 {
		return nan()
	}
	sum := 0.0
	for _, x := range l {
		sum += x
	}
	return Canon(sum / float64(len(l)))
}

// Clamp (P1.3) looks at lo first: it holds where lo stands behind hi.
func Clamp(x, lo, hi float64) float64 {
	if math.IsNaN(x) || Less(x, lo) {
		return Canon(lo)
	}
	if Less(hi, x) {
		return Canon(hi)
	}
	return x
}

// Ticks (P1.3) compares whole numbers: as floats, great bounds would be rounded.
func Ticks(x float64, lo, hi int) int {
	up := math.Ceil(x)
	if lo > hi || math.IsNaN(up) || up < -pastInts {
		return lo
	}
	// Go leaves open what a float beyond all whole numbers is turned into.
	if up >= pastInts {
		return hi
	}
	return max(lo, min(hi, int(up)))
}

// Text is P1.4.
func Text(x float64) string {
	digits := strconv.FormatUint(math.Float64bits(Canon(x)), 16)
	for len(digits) < textDigits {
		digits = "0" + digits
	}
	return digits
}

// Parse (P1.4) asks Text whether s is one: strconv takes more (capitals, any length, other NaNs).
func Parse(s string) (float64, api.Errno) {
	bits, err := strconv.ParseUint(s, 16, 64)
	if err != nil {
		return 0, api.ErrPack
	}
	x := math.Float64frombits(bits)
	if Text(x) != s {
		return 0, api.ErrPack
	}
	return x, api.OK
}

func nan() float64 {
	return math.Float64frombits(nanBits)
}

// rank turns the bits of negative floats round, since these rise as the numbers fall.
func rank(x float64) uint64 {
	bits := math.Float64bits(Canon(x))
	if bits&signBit != 0 {
		return ^bits
	}
	return bits | signBit
}
