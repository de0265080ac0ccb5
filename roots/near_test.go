package roots_test

import (
	"math"
	"math/big"
	"testing"

	"eddy/roots"
)

// Numbers of so many bits that their own errors are nothing beside the bounds.
const bits = 400

func number() *big.Float             { return new(big.Float).SetPrec(bits) }
func exactly(x float64) *big.Float   { return number().SetFloat64(x) }
func add(a, b *big.Float) *big.Float { return number().Add(a, b) }
func sub(a, b *big.Float) *big.Float { return number().Sub(a, b) }
func mul(a, b *big.Float) *big.Float { return number().Mul(a, b) }

// trueLength is the root of both squares together.
func trueLength(x, y *big.Float) *big.Float {
	return number().Sqrt(add(mul(x, x), mul(y, y)))
}

func lengthOf(a complex128) *big.Float { return trueLength(exactly(real(a)), exactly(imag(a))) }

// unit is how far the greatest float that is not above v is from the next one.
func unit(v *big.Float) *big.Float {
	below, _ := v.Float64()
	if exactly(below).Cmp(v) > 0 {
		below = math.Nextafter(below, 0)
	}
	if below == greatest {
		return sub(exactly(greatest), exactly(math.Nextafter(greatest, 0)))
	}
	return sub(exactly(math.Nextafter(below, infinite)), exactly(below))
}

// finite are the finite ones of many numbers.
func finite(rounds int) []complex128 {
	var l []complex128
	for _, a := range many(rounds) {
		if isFinite(a) {
			l = append(l, a)
		}
	}
	return l
}

func TestP6_5LengthNear(t *testing.T) {
	for _, a := range finite(2000) {
		truth, got := lengthOf(a), roots.Length(a)
		if truth.Cmp(exactly(greatest)) > 0 && got == infinite {
			continue
		}
		if got > greatest {
			t.Errorf("Length(%x) is infinite", a)
			continue
		}
		far := sub(exactly(got), truth)
		if far.Abs(far).Cmp(mul(exactly(2), unit(truth))) > 0 {
			t.Errorf("Length(%x): %x is %s away", a, got, far.Text('g', 5))
		}
	}
}

func TestP6_5RootNear(t *testing.T) {
	for _, a := range finite(2000) {
		root := roots.Root(a)
		if !isFinite(root) {
			t.Errorf("Root(%x): %x", a, root)
			continue
		}
		p, q := exactly(real(root)), exactly(imag(root))
		x := sub(sub(mul(p, p), mul(q, q)), exactly(real(a)))
		y := sub(mul(exactly(2), mul(p, q)), exactly(imag(a)))
		if far := trueLength(x, y); far.Cmp(mul(exactly(0x1p-48), lengthOf(a))) > 0 {
			t.Errorf("Root(%x): %x, its square is %s away", a, root, far.Text('g', 5))
		}
	}
}

// middling are numbers not nought whose parts are nought or from 2^-400 to 2^400.
func middling(rounds int) []complex128 {
	l := pairs([]float64{0x1p-400, -0x1p400, 1, -3, 0x1.fffffffffffffp399, 0x1.0000000000001p-400, math.Pi})
	for _, x := range []float64{0, minusNought} {
		for _, y := range []float64{1, -1, 0x1p400, -0x1p-400, math.Pi} {
			l = append(l, complex(x, y), complex(y, x))
		}
	}
	d := newDice()
	for range rounds {
		l = append(l, d.number(3), complex(d.part(399), d.part(399)), complex(d.part(3), d.part(3)))
	}
	return l
}

func TestP6_7UnitNear(t *testing.T) {
	for _, a := range middling(20000) {
		u, is := roots.Unit(a)
		square := roots.Square(u)
		if !is || square < 1-0x1p-48 || square > 1+0x1p-48 {
			t.Errorf("Unit(%x): %x, %v", a, u, is)
		}
		if math.Signbit(real(u)) != math.Signbit(real(a)) || math.Signbit(imag(u)) != math.Signbit(imag(a)) {
			t.Errorf("Unit(%x): %x has other signs", a, u)
		}
	}
	for _, a := range finite(2000) {
		if _, is := roots.Unit(a); is == isNought(a) {
			t.Errorf("Unit(%x): %v", a, is)
		}
	}
}

func TestP6_7PlaceOfPolar(t *testing.T) {
	for _, a := range middling(4000) {
		length, angle := roots.Polar(a)
		b := roots.Place(length, angle)
		x, y := sub(exactly(real(b)), exactly(real(a))), sub(exactly(imag(b)), exactly(imag(a)))
		if far := trueLength(x, y); far.Cmp(mul(exactly(0x1p-44), exactly(length))) > 0 {
			t.Errorf("Place of Polar(%x): %x is %s away", a, b, far.Text('g', 5))
		}
	}
}
