package ratio_test

import (
	"math"
	"testing"

	"eddy/api"
	"eddy/ratio"
)

type (
	list     = []complex128
	fraction = api.Fraction
	pole     = api.Pole
)

const (
	least    = 0x1p-1074
	greatest = math.MaxFloat64
	most     = 0x1p40 // the greatest worth of a part
	degrees  = 64     // the greatest degree
)

var (
	minusNought = math.Copysign(0, -1)
	infinite    = math.Inf(1)
	none        = math.NaN()
	beyond      = math.Nextafter(most, infinite)
	minusBoth   = complex(minusNought, minusNought)
	noughts     = list{0, complex(minusNought, 0), complex(0, minusNought), minusBoth}
	// noPlaces are no places, each by one part at least.
	noPlaces = list{complex(none, 0), complex(0, none), complex(infinite, 1), complex(1, -infinite), complex(beyond, 0), complex(0, -beyond), complex(none, none)}
)

// dice tells words, the same ones at each run.
type dice uint64

func newDice() *dice {
	d := dice(0x9e3779b97f4a7c15)
	return &d
}

func (d *dice) word() uint64 {
	x := *d
	x ^= x << 13
	x ^= x >> 7
	x ^= x << 17
	*d = x
	return uint64(x)
}

func (d *dice) below(n int) int { return int(d.word() % uint64(n)) }

// part is a float of either sign, from 2^-reach to below 2^reach in worth, at times a nought.
func (d *dice) part(reach int) float64 {
	sign := float64(int64(d.word()))
	if d.below(8) == 0 {
		return math.Copysign(0, sign)
	}
	x := math.Ldexp(1+float64(d.word()>>12)*0x1p-52, d.below(2*reach)-reach)
	return math.Copysign(x, sign)
}

func (d *dice) number(reach int) complex128 { return complex(d.part(reach), d.part(reach)) }

// whole has whole parts of at most 8 in worth.
func (d *dice) whole() complex128 {
	return complex(float64(d.below(17)-8), float64(d.below(17)-8))
}

// list is so many numbers; a last one that is nought is thrown again.
func (d *dice) list(n int, throw func() complex128) list {
	l := make(list, n)
	for i := range l {
		l[i] = throw()
	}
	for n > 1 && l[n-1] == 0 {
		l[n-1] = throw()
	}
	return l
}

// polynomial is of any degree up to the one that is told.
func (d *dice) polynomial(degree, reach int) list {
	return d.list(d.below(degree+1)+1, func() complex128 { return d.number(reach) })
}

// any is a polynomial as programs have them, or a strange one.
func (d *dice) any() list {
	switch d.below(8) {
	case 0:
		return d.list(d.below(7)+1, d.whole)
	case 1:
		return d.polynomial(degrees, 3)
	case 2:
		return d.polynomial(3, 40)
	case 3:
		return d.polynomial(degrees/2, 12)
	case 4: // so small that products of it may be lost
		return d.list(d.below(4)+1, func() complex128 { return complex(d.part(8)*0x1p-535, d.part(8)*0x1p-535) })
	}
	return d.polynomial(8, 10)
}

// fraction is of any two that may be.
func (d *dice) fraction() fraction {
	f := of(d.any(), d.any())
	for isNoughtPolynomial(f.Bottom) {
		f.Bottom = d.any()
	}
	return f
}

// wholes is a fraction of whole numbers, of degrees up to 3.
func (d *dice) wholes() fraction {
	f := of(d.list(d.below(4)+1, d.whole), d.list(d.below(4)+1, d.whole))
	for isNoughtPolynomial(f.Bottom) {
		f.Bottom = list{d.whole()}
	}
	return f
}

func (d *dice) numbers(n, reach int) list {
	l := make(list, n)
	for i := range l {
		l[i] = d.number(reach)
	}
	return l
}

func of(top, bottom list) fraction { return fraction{Top: top, Bottom: bottom} }

func isNoughtPolynomial(l list) bool { return len(l) == 1 && l[0] == 0 }

func sameFloats(a, b float64) bool {
	return math.IsNaN(a) && math.IsNaN(b) || math.Float64bits(a) == math.Float64bits(b)
}

func same(a, b complex128) bool {
	return sameFloats(real(a), real(b)) && sameFloats(imag(a), imag(b))
}

func sameLists(a, b list) bool {
	if len(a) != len(b) {
		return false
	}
	for i := range a {
		if !same(a[i], b[i]) {
			return false
		}
	}
	return true
}

func sameFractions(f, g fraction) bool {
	return sameLists(f.Top, g.Top) && sameLists(f.Bottom, g.Bottom)
}

func samePoles(a, b []pole) bool {
	if len(a) != len(b) {
		return false
	}
	for i := range a {
		if !same(a[i].At, b[i].At) || !same(a[i].Residue, b[i].Residue) {
			return false
		}
	}
	return true
}

// wantFraction takes what a call answers as it comes.
func wantFraction(t *testing.T, ought fraction, oughtE api.Errno, got fraction, e api.Errno) {
	t.Helper()
	if e != oughtE || !sameFractions(got, ought) || e != api.OK && (got.Top != nil || got.Bottom != nil) {
		t.Errorf("%x, %d, not %x, %d", got, int(e), ought, int(oughtE))
	}
}

func wantCheck(t *testing.T, f fraction, ought api.Errno) {
	t.Helper()
	if e := ratio.Check(f); e != ought {
		t.Errorf("Check(%v): %d, not %d", f, int(e), int(ought))
	}
}

func wantAt(t *testing.T, f fraction, z, ought complex128, oughtE api.Errno) {
	t.Helper()
	if v, e := ratio.At(f, z); e != oughtE || !same(v, ought) {
		t.Errorf("At(%x, %x): %x, %d, not %x, %d", f, z, v, int(e), ought, int(oughtE))
	}
}

func wantSlope(t *testing.T, f, ought fraction, oughtE api.Errno) {
	t.Helper()
	got, e := ratio.Slope(f)
	wantFraction(t, ought, oughtE, got, e)
}

func wantAdd(t *testing.T, f, g, ought fraction, oughtE api.Errno) {
	t.Helper()
	got, e := ratio.Add(f, g)
	wantFraction(t, ought, oughtE, got, e)
}

func wantMul(t *testing.T, f, g, ought fraction, oughtE api.Errno) {
	t.Helper()
	got, e := ratio.Mul(f, g)
	wantFraction(t, ought, oughtE, got, e)
}

func wantTurned(t *testing.T, f, ought fraction, oughtE api.Errno) {
	t.Helper()
	got, e := ratio.Turned(f)
	wantFraction(t, ought, oughtE, got, e)
}

func wantPoles(t *testing.T, f fraction, at list, ought []pole, oughtE api.Errno) {
	t.Helper()
	if l, e := ratio.Poles(f, at); e != oughtE || !samePoles(l, ought) || e != api.OK && l != nil {
		t.Errorf("Poles(%x, %x): %x, %d, not %x, %d", f, at, l, int(e), ought, int(oughtE))
	}
}

func wantOf(t *testing.T, l []pole, rest list, ought fraction, oughtE api.Errno) {
	t.Helper()
	got, e := ratio.Of(l, rest)
	wantFraction(t, ought, oughtE, got, e)
}

// wantLike passes over the signs of noughts, of which a product of zeros makes many.
func wantLike(t *testing.T, l []pole, rest list, ought fraction) {
	t.Helper()
	if got, e := ratio.Of(l, rest); e != api.OK || !likeFractions(got, ought) {
		t.Errorf("Of(%v, %v): %v, %d, not %v", l, rest, got, int(e), ought)
	}
}

// filled is so many times a.
func filled(n int, a complex128) list {
	l := make(list, n)
	for i := range l {
		l[i] = a
	}
	return l
}

// power is a z^n.
func power(n int, a complex128) list { return append(make(list, n), a) }

// polesAt are so many, all alike.
func polesAt(n int, p pole) []pole {
	l := make([]pole, n)
	for i := range l {
		l[i] = p
	}
	return l
}

// refusedLists are polynomials that may not be.
func refusedLists() []list {
	out := []list{nil, {}, {1, 0}, {1, 2, minusBoth}, {0, 0}, filled(degrees+2, 1), make(list, degrees+1)}
	for _, a := range noPlaces {
		out = append(out, list{a}, list{a, 1}, list{1, a}, list{1, a, 1})
	}
	return out
}

// refused are fractions that may not be: by Top, by Bottom, by both.
func refused() []fraction {
	var out []fraction
	for _, l := range refusedLists() {
		out = append(out, of(l, list{1}), of(l, list{0, 1}), of(list{1}, l), of(list{0}, l), of(l, l), of(l, list{0}))
	}
	for _, a := range noughts {
		out = append(out, of(list{1}, list{a}), of(list{a}, list{a}), of(filled(degrees+1, most), list{a}))
	}
	return out
}

// taken are fractions that may be, at the ends of it.
func taken() []fraction {
	out := []fraction{
		of(list{1}, list{0, 1}), of(list{1}, list{0, 0, least}), of(list{complex(0, least)}, list{complex(minusNought, -least)}),
		of(filled(degrees+1, complex(most, -most)), filled(degrees+1, complex(-most, most))), of(power(degrees, 1i), list{5}), of(list{5}, power(degrees, -1i)),
	}
	for _, a := range noughts {
		out = append(out, of(list{a}, list{1}), of(list{a}, list{a, 1}))
	}
	return out
}

func TestP10_1Check(t *testing.T) {
	for _, f := range refused() {
		wantCheck(t, f, api.ErrPoly)
	}
	for _, f := range taken() {
		wantCheck(t, f, api.OK)
	}
	wantCheck(t, fraction{}, api.ErrPoly)
}

// Whatever else is wrong, on whichever side the fraction stands.
func TestP10_1AheadOfAllElse(t *testing.T) {
	others := append(refused()[:8], of(list{1}, list{2}), of(list{most}, list{most}), of(power(degrees, 1), power(degrees, 1)), of(list{1}, list{least}))
	for _, f := range refused() {
		for _, z := range append(list{0, 1i}, noPlaces...) {
			wantAt(t, f, z, 0, api.ErrPoly)
			for _, n := range []int{0, 1, max(len(f.Bottom)-1, 0), 7, 100} {
				wantPoles(t, f, filled(n, z), nil, api.ErrPoly)
			}
		}
		for _, g := range others {
			wantAdd(t, f, g, fraction{}, api.ErrPoly)
			wantAdd(t, g, f, fraction{}, api.ErrPoly)
			wantMul(t, f, g, fraction{}, api.ErrPoly)
			wantMul(t, g, f, fraction{}, api.ErrPoly)
		}
		wantSlope(t, f, fraction{}, api.ErrPoly)
		wantTurned(t, f, fraction{}, api.ErrPoly)
	}
}

func TestP10_2NoPlace(t *testing.T) {
	for _, f := range taken() {
		for _, z := range noPlaces {
			wantAt(t, f, z, 0, api.ErrReal)
		}
	}
}

func TestP10_2AtAZeroOfBottom(t *testing.T) {
	for _, z := range noughts {
		wantAt(t, of(list{1}, list{0, 1}), z, 0, api.ErrPlace)
		wantAt(t, of(list{0}, list{0, 1}), z, 0, api.ErrPlace)
		wantAt(t, of(list{0, 1}, list{0, 1}), z, 0, api.ErrPlace) // a zero of both
	}
	wantAt(t, of(list{1}, list{-1, 0, 1}), 1, 0, api.ErrPlace)
	wantAt(t, of(list{1}, list{1, 0, 1}), 1i, 0, api.ErrPlace)
	wantAt(t, of(list{1}, list{1, 0, 1}), complex(minusNought, -1), 0, api.ErrPlace)
	wantAt(t, of(list{1}, list{0, 0, 1}), 0x1p-538, 0, api.ErrPlace)                // the square is lost
	wantAt(t, of(list{0x1p-1000}, list{0, 0, 1}), 0x1p-537, 0x1p74, api.OK)         // and here just not
	wantAt(t, of(list{1}, list{complex(0, 1), 1}), complex(0, -1), 0, api.ErrPlace) // one part is not enough:
	wantAt(t, of(list{1}, list{complex(0, 1), 1}), complex(0, 1), complex(0, -0.5), api.OK)
	wantAt(t, of(list{1}, list{complex(0, 1), 1}), complex(2, -1), 0.5, api.OK)
}

func TestP10_2NotFinite(t *testing.T) {
	wantAt(t, of(list{1}, list{complex(least, 0)}), 0, 0, api.ErrPlace)
	wantAt(t, of(list{1i}, list{complex(0, -least)}), 7, 0, api.ErrPlace)
	wantAt(t, of(list{complex(1, least)}, list{complex(least, 0)}), 7, 0, api.ErrPlace) // one part of both
	wantAt(t, of(list{complex(least, -1)}, list{complex(least, 0)}), 7, 0, api.ErrPlace)
	wantAt(t, of(list{most}, list{0x1p-983}), 0, 0x1p1023, api.OK) // finite, though no place
	wantAt(t, of(list{most}, list{0x1p-984}), 0, 0, api.ErrPlace)
	far := power(degrees, 1) // its value out there is not finite
	wantAt(t, of(far, list{1}), most, 0, api.ErrPlace)
	wantAt(t, of(list{1}, far), most, 0, api.ErrPlace)
	wantAt(t, of(far, far), most, 0, api.ErrPlace)
	wantAt(t, of(power(24, 1), power(25, 1)), most, 0x1p-40, api.OK)
}

func TestP10_2Noughts(t *testing.T) {
	wantAt(t, of(list{0}, list{2}), 1, 0, api.OK)
	wantAt(t, of(list{0}, list{-2}), 1, div(0, -2), api.OK)
	for _, a := range noughts {
		for _, b := range []complex128{1, -1, 1i, -1i, 2 - 3i} {
			wantAt(t, of(list{a}, list{b}), 5, div(a, b), api.OK)
		}
	}
}

func TestP10_3Degrees(t *testing.T) {
	for _, r := range []struct {
		n, m  int
		ought fraction
		e     api.Errno
	}{
		{33, 32, of(power(degrees, 1), power(degrees, 1)), api.OK},
		{34, 32, fraction{}, api.ErrMany},
		{32, 33, fraction{}, api.ErrMany},
		{33, 33, fraction{}, api.ErrMany},
		{64, 0, of(power(63, 64), list{1}), api.OK},
		{64, 1, of(power(64, 63), power(2, 1)), api.OK},
		{64, 2, fraction{}, api.ErrMany},
		{63, 2, of(power(64, 61), power(4, 1)), api.OK},
		{0, 32, of(power(31, -32), power(64, 1)), api.OK},
		{0, 33, fraction{}, api.ErrMany},
		{0, 64, fraction{}, api.ErrMany},
		{32, 32, of(list{0}, power(64, 1)), api.OK},
	} {
		got, e := ratio.Slope(of(power(r.n, 1), power(r.m, 1)))
		if e != r.e || !likeFractions(got, r.ought) {
			t.Errorf("Slope of z^%d / z^%d: %v, %d", r.n, r.m, got, int(e))
		}
	}
	// Of the nought polynomial no degree counts but Bottom's own.
	for _, a := range noughts {
		wantSlope(t, of(list{a}, power(32, 1)), of(list{0}, power(64, 1)), api.OK)
		wantSlope(t, of(list{a}, power(33, 1)), fraction{}, api.ErrMany)
	}
}

// likeFractions passes over the signs of noughts; all parts are numbers.
func likeFractions(f, g fraction) bool {
	return likeLists(f.Top, g.Top) && likeLists(f.Bottom, g.Bottom)
}

func likeLists(a, b list) bool {
	if len(a) != len(b) {
		return false
	}
	for i := range a {
		if a[i] != b[i] {
			return false
		}
	}
	return true
}

// Neg turns noughts too: of a Bottom without a slope (0, 0) becomes a minus, which is lost where it is added to (0, 0), and kept where nothing is added.
func TestP10_3Signs(t *testing.T) {
	wantSlope(t, of(list{5}, list{3}), of(list{0}, list{9}), api.OK)
	wantSlope(t, of(list{5, complex(minusNought, 2)}, list{3}), of(list{complex(minusNought, 6)}, list{9}), api.OK)
	wantSlope(t, of(list{5}, list{3, 2}), of(list{complex(-10, 0)}, list{9, 12, 4}), api.OK)
	wantSlope(t, of(list{1}, list{0, 0, 1}), of(list{0, complex(-2, minusNought)}, list{0, 0, 0, 0, 1}), api.OK)
	wantSlope(t, of(list{1}, list{minusBoth, minusBoth, 1}), of(list{0, complex(-2, minusNought)}, list{0, 0, 0, complex(0, minusNought), 1}), api.OK)
}

func TestP10_3Errors(t *testing.T) {
	great := append(list{0x1p20, 0x1p20}, power(31, 1)...) // 2^20 + 2^20 z + z^33
	for i, r := range []struct {
		f fraction
		e api.Errno
	}{
		{of(power(40, most), power(40, 1)), api.ErrPlace},    // Slope of Top, ahead of both degrees
		{of(power(40, 1), power(40, most)), api.ErrPlace},    // Slope of Bottom, ahead of both degrees
		{of(power(60, 1), power(30, 0x1p30)), api.ErrMany},   // the degrees, ahead of the square of Bottom
		{of(power(60, most/64), power(30, 1)), api.ErrMany},  // and of the products
		{of(list{most}, power(33, 2)), api.ErrPlace},         // Mul of Top, ahead of Bottom's degrees
		{of(list{0, 0x1p39}, power(33, 4)), api.ErrPlace},    // Mul of Top's slope, ahead of Bottom's degrees
		{of(list{-0x1p20, 0x1p20}, great), api.ErrPlace},     // Add, ahead of Bottom's degrees
		{of(list{0x1p20, 0x1p20}, great), api.ErrMany},       // and here it is none
		{of(list{1}, list{0x1p20}), api.OK},                  // the square of Bottom: just MaxReal
		{of(list{1}, list{0x1p20 + 1}), api.ErrPlace},        // and beyond
		{of(list{1}, list{1, 0, 0x1p19, 0x1p19}), api.OK},    // two products together: just MaxReal/2
		{of(list{1}, list{1, 0x1p20, 0x1p20}), api.ErrPlace}, // and beyond, though the others are none
		{of(list{1}, list{0, 0, most}), api.ErrPlace},
		{of(list{0, 0, most}, list{1}), api.ErrPlace},
		{of(list{0, 0, most / 2}, list{1}), api.OK},
		{of(list{0, most}, list{2}), api.ErrPlace},
	} {
		if got, e := ratio.Slope(r.f); e != r.e || e != api.OK && (got.Top != nil || got.Bottom != nil) {
			t.Errorf("%d: %v, %d, not %d", i, got, int(e), int(r.e))
		}
	}
}

// The square of a Bottom is lost, wholly or but for its first coefficients.
func TestP10_3BottomComesToNought(t *testing.T) {
	wantSlope(t, of(list{1}, list{0x1p-538}), fraction{}, api.ErrPlace)
	wantSlope(t, of(list{0}, list{complex(0, -0x1p-538)}), fraction{}, api.ErrPlace)
	wantSlope(t, of(list{1, 2}, list{0, 0x1p-538}), fraction{}, api.ErrPlace)
	wantSlope(t, of(power(3, 1), power(9, 1e-300)), fraction{}, api.ErrPlace)
	wantSlope(t, of(list{0}, list{0x1p-537}), of(list{0}, list{least}), api.OK)
	got, e := ratio.Slope(of(list{1}, list{1, 0x1p-538}))
	if e != api.OK || !likeFractions(got, of(list{-0x1p-538}, list{1, 0x1p-537})) {
		t.Errorf("%x, %d", got, int(e))
	}
}

func TestP10_4Degrees(t *testing.T) {
	one := list{1}
	for i, r := range []struct {
		f, g fraction
		add  api.Errno
		mul  api.Errno
	}{
		{of(power(32, 1), one), of(power(32, 1), one), api.OK, api.OK},
		{of(power(32, 1), one), of(power(33, 1), one), api.OK, api.ErrMany},
		{of(power(33, 1), one), of(power(32, 1), one), api.OK, api.ErrMany},
		{of(power(32, 1), one), of(one, power(32, 1)), api.OK, api.OK},
		{of(power(33, 1), one), of(one, power(32, 1)), api.ErrMany, api.OK},
		{of(power(32, 1), one), of(one, power(33, 1)), api.ErrMany, api.OK},
		{of(one, power(32, 1)), of(power(33, 1), one), api.ErrMany, api.OK},
		{of(one, power(33, 1)), of(power(32, 1), one), api.ErrMany, api.OK},
		{of(one, power(33, 1)), of(power(31, 1), one), api.OK, api.OK},
		{of(one, power(32, 1)), of(one, power(32, 1)), api.OK, api.OK},
		{of(one, power(32, 1)), of(one, power(33, 1)), api.ErrMany, api.ErrMany},
		{of(one, power(64, 1)), of(list{0}, list{0, 1}), api.ErrMany, api.ErrMany},
		{of(list{0}, power(32, 1)), of(power(64, 1), list{0, 1}), api.ErrMany, api.OK},
		{of(power(64, 1), one), of(list{0}, list{0, 1}), api.ErrMany, api.OK}, // the nought polynomial has no degree to count
		{of(power(64, 1), one), of(list{minusBoth}, one), api.OK, api.OK},
		{of(list{minusBoth}, power(40, 1)), of(list{0}, power(24, 1)), api.OK, api.OK},
	} {
		if got, e := ratio.Add(r.f, r.g); e != r.add || e != api.OK && (got.Top != nil || got.Bottom != nil) {
			t.Errorf("Add %d: %v, %d, not %d", i, got, int(e), int(r.add))
		}
		if got, e := ratio.Mul(r.f, r.g); e != r.mul || e != api.OK && (got.Top != nil || got.Bottom != nil) {
			t.Errorf("Mul %d: %v, %d, not %d", i, got, int(e), int(r.mul))
		}
	}
}

func TestP10_4AddErrors(t *testing.T) {
	for i, r := range []struct {
		f, g fraction
		e    api.Errno
	}{
		{of(list{most}, power(60, 1)), of(power(40, 1), list{2}), api.ErrPlace},            // Mul(f's Top, g's Bottom), ahead of the other one's degrees
		{of(power(60, 1), list{2}), of(list{most}, power(40, 1)), api.ErrMany},             // and the other way round
		{of(list{1}, power(60, 2)), of(list{most}, power(40, 1)), api.ErrPlace},            // Mul(g's Top, f's Bottom), ahead of the Bottoms' degrees
		{of(list{1}, power(31, 0x1p30)), of(power(40, 1), power(31, 0x1p30)), api.ErrMany}, // and the other way round
		{of(list{most}, list{0, 1}), of(list{most}, list{0, 1}), api.ErrPlace},             // Add alone
		{of(list{most}, power(60, 1)), of(list{most}, power(60, 1)), api.ErrPlace},         // ahead of the Bottoms' degrees
		{of(list{most}, power(60, 1)), of(list{-most}, power(60, 1)), api.ErrMany},         // and here it is none
		{of(list{1}, list{0x1p20}), of(list{1}, list{0x1p20}), api.OK},                     // the Bottoms
		{of(list{1}, list{0x1p20}), of(list{1}, list{0x1p20 + 1}), api.ErrPlace},
		{of(list{1}, list{least}), of(list{1}, list{0.5}), api.ErrPlace}, // the product of the Bottoms is lost
		{of(list{1}, list{least}), of(list{1}, list{1}), api.OK},
		{of(list{1}, list{0, 1e-300}), of(list{1}, list{1e-300, 0, 1e-300}), api.ErrPlace},
	} {
		if got, e := ratio.Add(r.f, r.g); e != r.e || e != api.OK && (got.Top != nil || got.Bottom != nil) {
			t.Errorf("%d: %v, %d, not %d", i, got, int(e), int(r.e))
		}
	}
}

func TestP10_4MulErrors(t *testing.T) {
	for i, r := range []struct {
		f, g fraction
		e    api.Errno
	}{
		{of(list{most}, power(40, 1)), of(list{2}, power(40, 1)), api.ErrPlace}, // the Tops ahead of the Bottoms
		{of(power(40, 1), list{most}), of(power(40, 1), list{2}), api.ErrMany},
		{of(power(40, 1), list{least}), of(power(40, 1), list{0.5}), api.ErrMany},
		{of(list{1}, list{most}), of(list{1}, list{2}), api.ErrPlace},
		{of(list{1}, list{most}), of(list{1}, list{1}), api.OK},
		{of(list{1}, list{least}), of(list{1}, list{0.5}), api.ErrPlace},
		{of(list{1}, list{0, 1e-300i}), of(list{1}, list{1e-300, 0, 1e-300}), api.ErrPlace},
		{of(list{least}, list{1}), of(list{0.5}, list{1}), api.OK}, // a Top may be lost
	} {
		if got, e := ratio.Mul(r.f, r.g); e != r.e || e != api.OK && (got.Top != nil || got.Bottom != nil) {
			t.Errorf("%d: %v, %d, not %d", i, got, int(e), int(r.e))
		}
	}
	wantMul(t, of(list{1, least}, list{1, 1e-300}), of(list{0.5, 0.5}, list{1, 1e-300}), of(list{0.5, 0.5}, list{1, 2e-300}), api.OK)
}

func TestP10_4Turned(t *testing.T) {
	for _, a := range noughts {
		for _, l := range []list{{1}, {0, 1}, filled(degrees+1, -most), {complex(0, -least)}} {
			wantTurned(t, of(list{a}, l), fraction{}, api.ErrPlace)
		}
	}
	for _, f := range taken() {
		if !isNoughtPolynomial(f.Top) {
			wantTurned(t, f, of(f.Bottom, f.Top), api.OK)
		}
	}
	wantTurned(t, of(list{complex(least, minusNought)}, list{minusBoth, 1}), of(list{minusBoth, 1}, list{complex(least, minusNought)}), api.OK)
}

func TestP10_5HowMany(t *testing.T) {
	for n := range degrees + 1 {
		f := of(list{1}, power(n, 1))
		for _, count := range []int{0, n - 1, n + 1, 2 * n, degrees + 1, 5000} {
			if count >= 0 && count != n {
				wantPoles(t, f, filled(count, 1), nil, api.ErrMany)
				wantPoles(t, f, filled(count, complex(none, 0)), nil, api.ErrMany) // ahead of what stands there
				wantPoles(t, f, filled(count, 0), nil, api.ErrMany)
			}
		}
		if l, e := ratio.Poles(f, filled(n, 1)); e != api.OK || len(l) != n {
			t.Errorf("Poles of %d places: %v, %d", n, l, int(e))
		}
	}
	for _, top := range []list{{1}, {0}, filled(degrees+1, most)} {
		wantPoles(t, of(top, list{5}), nil, nil, api.OK)
		wantPoles(t, of(top, list{5}), list{}, nil, api.OK)
		wantPoles(t, of(top, list{complex(0, least)}), list{}, nil, api.OK)
		wantPoles(t, of(top, list{5}), list{1}, nil, api.ErrMany)
	}
}

// A place that is none comes ahead of all that may be wrong at another one.
func TestP10_5NoPlace(t *testing.T) {
	for _, z := range noPlaces {
		for k := range 3 {
			for _, other := range []complex128{1, 0, most} {
				at := filled(3, other)
				at[k] = z
				wantPoles(t, of(list{1}, power(3, 1)), at, nil, api.ErrReal)
				wantPoles(t, of(power(degrees, 1), power(3, most)), at, nil, api.ErrReal)
			}
		}
	}
	far := list{complex(most, -most), complex(-most, most)}
	l, e := ratio.Poles(of(list{1}, list{-1, 0, 1}), far)
	if e != api.OK || !same(l[0].At, far[0]) || !same(l[1].At, far[1]) {
		t.Errorf("%v, %d", l, int(e))
	}
}

func TestP10_5Residues(t *testing.T) {
	f := of(list{1}, list{-1, 0, 1})
	wantPoles(t, f, list{1, -1}, []pole{{At: 1, Residue: 0.5}, {At: -1, Residue: div(1, -2)}}, api.OK)
	wantPoles(t, f, list{-1, 1}, []pole{{At: -1, Residue: div(1, -2)}, {At: 1, Residue: 0.5}}, api.OK)
	wantPoles(t, f, list{1, 1}, []pole{{At: 1, Residue: 0.5}, {At: 1, Residue: 0.5}}, api.OK)
	wantPoles(t, f, list{2, 4i}, []pole{{At: 2, Residue: 0.25}, {At: 4i, Residue: div(1, 8i)}}, api.OK) // Bottom is not nought there
	for _, z := range noughts {
		wantPoles(t, of(list{3, 1}, list{0, 2}), list{z}, []pole{{At: z, Residue: 1.5}}, api.OK)
	}
	// Top's value and that of Bottom's Slope, at each place.
	l, e := ratio.Poles(of(list{0, 0, 1}, list{-6, 11, -6, 1}), list{1, 2, 3})
	if e != api.OK || len(l) != 3 || l[0].Residue != 0.5 || l[1].Residue != -4 || l[2].Residue != 4.5 {
		t.Errorf("%v, %d", l, int(e))
	}
}

func TestP10_5Errors(t *testing.T) {
	far := power(degrees, 1)
	for i, r := range []struct {
		f  fraction
		at list
		e  api.Errno
	}{
		{of(list{1}, list{0, 0, 1}), list{0, 0}, api.ErrPlace}, // a double zero, told twice
		{of(list{1}, list{0, 0, 1}), list{1, minusBoth}, api.ErrPlace},
		{of(list{0}, list{0, 0, 1}), list{1, 0}, api.ErrPlace}, // 0 by 0
		{of(list{1}, list{-1, 3, -3, 1}), list{1, 1, 1}, api.ErrPlace},
		{of(list{1}, list{0, 0, 1}), list{1, least / 2}, api.ErrPlace},
		{of(list{1}, list{0, 0, 1}), list{1, complex(0, least)}, api.ErrPlace}, // the residue is not finite
		{of(list{1}, list{0, 0, 1}), list{complex(0, 0x1p-1023), 1}, api.OK},
		{of(list{1}, list{0, 0, 1}), list{complex(0, 0x1p-1025), 1}, api.ErrPlace},
		{of(list{1}, list{5, least}), list{0}, api.ErrPlace},
		{of(list{most}, list{0, 0x1p-983}), list{0}, api.OK},
		{of(list{most}, list{0, 0x1p-984}), list{0}, api.ErrPlace},
		{of(list{complex(1, most)}, list{0, 0x1p-984}), list{0}, api.ErrPlace},
		{of(far, list{0, 1}), list{most}, api.ErrPlace}, // Top's value is not finite
		{of(far, list{0, 1}), list{2}, api.OK},
		{of(list{1}, far), append(filled(degrees-1, 1), most), api.ErrPlace}, // that of Bottom's Slope
		{of(list{1}, list{0, 0, most}), list{1, 1}, api.ErrPlace},            // Slope is refused
		{of(list{1}, list{0, 0, most / 2}), list{1, 1}, api.OK},
	} {
		if l, e := ratio.Poles(r.f, r.at); e != r.e || e != api.OK && l != nil || e == api.OK && len(l) != len(r.at) {
			t.Errorf("%d: %v, %d, not %d", i, l, int(e), int(r.e))
		}
	}
}

func TestP10_6HowMany(t *testing.T) {
	for _, n := range []int{degrees + 1, degrees + 2, 5000, 1 << 20} {
		wantOf(t, make([]pole, n), nil, fraction{}, api.ErrMany)
		wantOf(t, polesAt(n, pole{At: complex(none, 0)}), list{1, 0}, fraction{}, api.ErrMany) // ahead of what they are
	}
	wantLike(t, polesAt(degrees, pole{}), nil, of(list{0}, power(degrees, 1)))
	wantLike(t, polesAt(degrees, pole{Residue: 1}), list{2}, of(append(power(degrees-1, degrees), 2), power(degrees, 1)))
	wantOf(t, polesAt(degrees, pole{Residue: 1}), list{0, 2}, fraction{}, api.ErrMany)
	wantLike(t, polesAt(degrees-1, pole{Residue: 1}), list{0, 2}, of(append(power(degrees-2, degrees-1), 0, 2), power(degrees-1, 1)))
	wantOf(t, nil, power(degrees, 2i), of(power(degrees, 2i), list{1}), api.OK)
}

func TestP10_6Refused(t *testing.T) {
	for _, a := range noPlaces {
		for k := range 3 {
			for _, rest := range append(refusedLists(), list{1}, nil) {
				l := []pole{{At: 1, Residue: 1}, {At: 2, Residue: 1}, {At: 2, Residue: 1}}
				l[k].At = a
				wantOf(t, l, rest, fraction{}, api.ErrReal)
				l[k].At, l[k].Residue = 0, a
				wantOf(t, l, rest, fraction{}, api.ErrReal)
			}
		}
	}
	for _, rest := range refusedLists() {
		if len(rest) > 0 {
			wantOf(t, nil, rest, fraction{}, api.ErrPoly)
			wantOf(t, []pole{{At: most, Residue: most}, {At: most}}, rest, fraction{}, api.ErrPoly) // ahead of working
		}
	}
}

func TestP10_6WithoutPoles(t *testing.T) {
	for _, l := range [][]pole{nil, {}} {
		wantOf(t, l, nil, of(list{0}, list{1}), api.OK)
		wantOf(t, l, list{}, of(list{0}, list{1}), api.OK)
		wantOf(t, l, list{5}, of(list{5}, list{1}), api.OK)
		wantOf(t, l, list{1, 2, 3}, of(list{1, 2, 3}, list{1}), api.OK)
		for _, a := range noughts {
			wantOf(t, l, list{a}, of(list{0}, list{1}), api.OK)
		}
	}
}

func TestP10_6EqualPlaces(t *testing.T) {
	two := []pole{{At: 2, Residue: 1}, {At: 2, Residue: 3}}
	wantLike(t, two, nil, of(list{-8, 4}, list{4, -4, 1}))
	wantLike(t, []pole{{At: 0, Residue: 1}, {At: minusBoth, Residue: -1}}, list{1}, of(list{0, 0, 1}, list{0, 0, 1}))
}

// wide is such that Of of all places may be, while Of of all but the first one has a coefficient beyond MaxReal.
func wide() []pole { return []pole{{At: 1}, {At: -1}, {At: -1}, {At: -0.75 * most}} }

func TestP10_6Errors(t *testing.T) {
	for i, r := range []struct {
		l    []pole
		rest list
		e    api.Errno
	}{
		{[]pole{{At: 0x1p20}, {At: 0x1p20}}, nil, api.OK},
		{[]pole{{At: 0x1p20}, {At: 0x1p20 + 1}}, nil, api.ErrPlace},          // Bottom
		{[]pole{{At: 0x1p20}, {At: 0x1p20 + 1}}, power(63, 1), api.ErrPlace}, // ahead of the degrees of rest and Bottom
		{[]pole{{At: 0x1p20}, {At: 0x1p20}}, power(63, 1), api.ErrMany},
		{[]pole{{At: 0, Residue: most}, {At: most}}, power(63, 1), api.ErrMany}, // which come ahead of the poles
		{[]pole{{At: 2}}, list{most}, api.ErrPlace},                             // Mul(rest, Bottom)
		{[]pole{{At: 2}}, list{most / 2}, api.OK},
		{[]pole{{At: 0, Residue: 2}, {At: most, Residue: 0}}, nil, api.ErrPlace}, // Mul(the residue, Of of the others)
		{[]pole{{At: 0, Residue: 1}, {At: most, Residue: 0}}, nil, api.OK},
		{[]pole{{At: 1, Residue: most}, {At: 3, Residue: most}}, nil, api.ErrPlace},
		{[]pole{{At: 1, Residue: most}}, list{1}, api.OK}, // Add
		{[]pole{{At: -1, Residue: most}}, list{1}, api.ErrPlace},
		{wide()[1:], nil, api.ErrPlace},
		{wide(), nil, api.ErrPlace}, // Of of the others, though the residue is nought
	} {
		if got, e := ratio.Of(r.l, r.rest); e != r.e || e != api.OK && (got.Top != nil || got.Bottom != nil) {
			t.Errorf("%d: %v, %d, not %d", i, got, int(e), int(r.e))
		}
	}
	if p, e := ofSteps(list{1, -1, -1, -0.75 * most}); e != api.OK || len(p) != 5 {
		t.Errorf("%v, %d", p, int(e))
	}
}
