// Package float is layer 1: floats as they are. See shared/doc/01-float.md.
package float

import "math"

const (
	noNumberBits = 0x7ff8000000000000
	signBit      = 1 << 63
	// farthest is more than the way from the least float to the greatest in powers of two, both ends' rounding counted in.
	farthest = 4096
)

// Same tells whether two floats are the same: noughts with their signs, no number as no number.
func Same(a, b float64) bool { return Bits(a) == Bits(b) }

// Finite tells whether a float is a number and not infinite.
func Finite(a float64) bool { return Within(a, math.MaxFloat64) }

// Within tells whether a, without its sign, is at most most; what is no number fails every comparison.
func Within(a, most float64) bool { return math.Abs(a) <= most }

// Bits are a float's bits; all that is no number shares one row, lest its hidden bits tell two apart.
func Bits(a float64) uint64 {
	if isNone(a) {
		return noNumberBits
	}
	return math.Float64bits(a)
}

// From is the float that has these bits.
func From(bits uint64) float64 { return math.Float64frombits(bits) }

// Up is the least float above a.
func Up(a float64) float64 {
	switch {
	case isNone(a) || a > math.MaxFloat64:
		return a
	case a == 0:
		return From(1)
	case a < 0:
		return From(Bits(a) - 1) // below nought the bits fall as the floats rise
	}
	return From(Bits(a) + 1)
}

// Down is the greatest float below a.
func Down(a float64) float64 { return -Up(-a) }

// Scale is a times 2 to the power of n, rounded once.
func Scale(a float64, n int) float64 {
	// Ldexp adds a's own exponent to n, and that sum may wrap round.
	return math.Ldexp(a, min(max(n, -farthest), farthest))
}

// Parts is a as a number from 1/2 to below 1, without its sign, times 2 to a power.
func Parts(a float64) (float64, int) { return math.Frexp(a) }

// Signed is a with b's sign, or without one where b has none.
func Signed(a, b float64) float64 {
	plain := math.Abs(a)
	if Minus(b) {
		return -plain
	}
	return plain
}

// Minus tells whether a has the sign: what is no number has none, whatever its bits.
func Minus(a float64) bool { return Bits(a)&signBit != 0 }

// Sum adds from the left. It begins with the first one, not with +0, which would swallow a minus nought.
func Sum(l ...float64) float64 {
	if len(l) == 0 {
		return 0
	}
	sum := l[0]
	for _, a := range l[1:] {
		sum += a
	}
	return sum
}

// Exact is the sum of a and b, and what it lost.
func Exact(a, b float64) (sum, lost float64) {
	sum = a + b
	if !Finite(sum) {
		return sum, 0
	}
	// Taken from the greater one, both differences are exact, and neither can overflow.
	if math.Abs(a) < math.Abs(b) {
		a, b = b, a
	}
	lost = b - (sum - a)
	if lost == 0 {
		return sum, 0 // a minus nought handed in must not come out as a loss
	}
	return sum, lost
}

// Whole is the nearest whole number, of two the even one, with a's sign.
func Whole(a float64) float64 { return math.RoundToEven(a) }

// isNone tells whether a is no number: nothing else differs from itself.
func isNone(a float64) bool { return a != a }
