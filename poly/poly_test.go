package poly_test

import (
	"math"
	"testing"

	"eddy/api"
	"eddy/poly"
)

type list = []complex128

const (
	least    = 0x1p-1074
	greatest = math.MaxFloat64
	most     = 0x1p40 // the greatest worth of a part
	degrees  = 64     // the greatest degree
)

var (
	minusNought = math.Copysign(0, -1)
	infinite    = math.Inf(1)
	none        = math.NaN()
	beyond      = math.Nextafter(most, infinite)
	within      = math.Nextafter(most, 0)
	minusBoth   = complex(minusNought, minusNought)
	noughts     = list{0, complex(minusNought, 0), complex(0, minusNought), minusBoth}
)

// dice tells words, the same ones at each run.
type dice uint64

func newDice() *dice {
	d := dice(0x9e3779b97f4a7c15)
	return &d
}

func (d *dice) word() uint64 {
	x := *d
	x ^= x << 13
	x ^= x >> 7
	x ^= x << 17
	*d = x
	return uint64(x)
}

func (d *dice) below(n int) int { return int(d.word() % uint64(n)) }

// part is a float of either sign, from 2^-reach to below 2^reach in worth, at times a nought.
func (d *dice) part(reach int) float64 {
	sign := float64(int64(d.word()))
	if d.below(8) == 0 {
		return math.Copysign(0, sign)
	}
	x := math.Ldexp(1+float64(d.word()>>12)*0x1p-52, d.below(2*reach)-reach)
	return math.Copysign(x, sign)
}

func (d *dice) number(reach int) complex128 { return complex(d.part(reach), d.part(reach)) }

// whole has whole parts of at most 8 in worth.
func (d *dice) whole() complex128 {
	return complex(float64(d.below(17)-8), float64(d.below(17)-8))
}

// great has parts not far from MaxReal.
func (d *dice) great() complex128 {
	return complex(math.Ldexp(d.part(1), 39), math.Ldexp(d.part(1), 39))
}

// list is so many numbers; a last one that is nought is thrown again.
func (d *dice) list(n int, throw func() complex128) list {
	l := make(list, n)
	for i := range l {
		l[i] = throw()
	}
	for n > 1 && l[n-1] == 0 {
		l[n-1] = throw()
	}
	return l
}

// polynomial is of any degree up to the one that is told.
func (d *dice) polynomial(degree, reach int) list {
	return d.list(d.below(degree+1)+1, func() complex128 { return d.number(reach) })
}

// wholes is a polynomial of whole numbers, of any degree up to 6.
func (d *dice) wholes() list { return d.list(d.below(7)+1, d.whole) }

// any is a polynomial as programs have them, or a strange one.
func (d *dice) any() list {
	switch d.below(6) {
	case 0:
		return d.wholes()
	case 1:
		return d.polynomial(degrees, 3)
	case 2:
		return d.polynomial(3, 40)
	case 3:
		return d.polynomial(degrees/2, 12)
	}
	return d.polynomial(8, 10)
}

func sameFloats(a, b float64) bool {
	return math.IsNaN(a) && math.IsNaN(b) || math.Float64bits(a) == math.Float64bits(b)
}

func same(a, b complex128) bool {
	return sameFloats(real(a), real(b)) && sameFloats(imag(a), imag(b))
}

// alike holds lists against each other, by each number.
func alike(a, b list, one func(a, b complex128) bool) bool {
	if len(a) != len(b) {
		return false
	}
	for i := range a {
		if !one(a[i], b[i]) {
			return false
		}
	}
	return true
}

func sameLists(a, b list) bool { return alike(a, b, same) }

// likeLists passes over the signs of noughts; all parts are numbers.
func likeLists(a, b list) bool {
	return alike(a, b, func(a, b complex128) bool { return a == b })
}

// wantList takes what a call answers as it comes.
func wantList(t *testing.T, ought list, oughtE api.Errno, got list, e api.Errno) {
	t.Helper()
	if e != oughtE || !sameLists(got, ought) || e != api.OK && got != nil {
		t.Errorf("%x, %d, not %x, %d", got, int(e), ought, int(oughtE))
	}
}

func wantSlope(t *testing.T, l, ought list, oughtE api.Errno) {
	t.Helper()
	got, e := poly.Slope(l)
	wantList(t, ought, oughtE, got, e)
}

func wantAdd(t *testing.T, a, b, ought list, oughtE api.Errno) {
	t.Helper()
	got, e := poly.Add(a, b)
	wantList(t, ought, oughtE, got, e)
}

func wantMul(t *testing.T, a, b, ought list, oughtE api.Errno) {
	t.Helper()
	got, e := poly.Mul(a, b)
	wantList(t, ought, oughtE, got, e)
}

func wantDiv(t *testing.T, a, b, oughtQ, oughtR list, oughtE api.Errno) {
	t.Helper()
	q, r, e := poly.Div(a, b)
	wantList(t, oughtQ, oughtE, q, e)
	wantList(t, oughtR, oughtE, r, e)
}

func wantOf(t *testing.T, zeros, ought list, oughtE api.Errno) {
	t.Helper()
	got, e := poly.Of(zeros)
	wantList(t, ought, oughtE, got, e)
}

func wantShift(t *testing.T, l list, by complex128, ought list, oughtE api.Errno) {
	t.Helper()
	got, e := poly.Shift(l, by)
	wantList(t, ought, oughtE, got, e)
}

func wantAt(t *testing.T, l list, z, ought complex128, oughtE api.Errno) {
	t.Helper()
	if v, e := poly.At(l, z); !same(v, ought) || e != oughtE {
		t.Errorf("At(%x, %x): %x, %d, not %x, %d", l, z, v, int(e), ought, int(oughtE))
	}
}

func wantBoth(t *testing.T, l list, z, value, slope complex128, oughtE api.Errno) {
	t.Helper()
	if v, s, e := poly.Both(l, z); !same(v, value) || !same(s, slope) || e != oughtE {
		t.Errorf("Both(%x, %x): %x, %x, %d, not %x, %x, %d", l, z, v, s, int(e), value, slope, int(oughtE))
	}
}

func wantBound(t *testing.T, l list, ought float64, oughtE api.Errno) {
	t.Helper()
	if r, e := poly.Bound(l); !sameFloats(r, ought) || e != oughtE {
		t.Errorf("Bound(%x): %x, %d, not %x, %d", l, r, int(e), ought, int(oughtE))
	}
}

// ending is so many noughts, and behind them a.
func ending(n int, a complex128) list { return append(make(list, n), a) }

// filled is so many times a.
func filled(n int, a complex128) list {
	l := make(list, n)
	for i := range l {
		l[i] = a
	}
	return l
}

// strangers are no places.
func strangers() list {
	var l list
	for _, x := range []float64{none, -none, infinite, -infinite, beyond, -beyond, greatest, -greatest} {
		l = append(l, complex(x, 1), complex(1, x), complex(x, x), complex(x, 0), complex(minusNought, x))
	}
	return l
}

// ends are places at the ends of what may be.
func ends() list {
	var l list
	for _, x := range []float64{0, minusNought, least, -least, 1, -3, most, -most, within} {
		for _, y := range []float64{0, minusNought, least, -least, 0.5, most, -most, -within} {
			l = append(l, complex(x, y))
		}
	}
	return l
}

// refused are lists that are no polynomials.
func refused() []list {
	l := []list{nil, {}, make(list, degrees+1), ending(degrees+1, 1), make(list, degrees+2), filled(200, 1), filled(1<<16, 1)}
	for _, a := range noughts {
		l = append(l, list{1, a}, list{0, a}, list{1, 2, a}, list{a, a}, append(filled(degrees, 1), a))
	}
	for _, a := range strangers() {
		l = append(l, list{a}, list{a, 1}, list{1, a}, list{1, a, 1}, list{1, 2, a}, append(list{a}, filled(degrees, 1)...), append(filled(degrees, 1), a))
	}
	return l
}

func TestP8_1Check(t *testing.T) {
	for _, l := range refused() {
		if e := poly.Check(l); e != api.ErrPoly {
			t.Errorf("Check of %d: %x: %d", len(l), l[:min(len(l), 5)], int(e))
		}
	}
	taken := []list{ending(degrees, 1), filled(degrees+1, -1i), ending(degrees, complex(0, least)), ending(2, complex(minusNought, -least)), ending(1, complex(least, minusNought))}
	for _, a := range ends() {
		taken = append(taken, list{a}, list{a, 1}, list{1, a, 1})
		if a != 0 {
			taken = append(taken, list{1, a}, filled(degrees+1, a))
		}
	}
	for _, l := range taken {
		if e := poly.Check(l); e != api.OK {
			t.Errorf("Check(%x): %d", l, int(e))
		}
	}
}

// Whatever else is wrong, on whichever side the polynomial stands.
func TestP8_1AheadOfAllElse(t *testing.T) {
	others := append(refused()[:12], list{1}, list{0}, list{1, 2}, filled(degrees+1, most))
	for _, l := range refused() {
		for _, z := range []complex128{0, 1i, complex(none, 0), complex(0, infinite), complex(beyond, 1)} {
			wantAt(t, l, z, 0, api.ErrPoly)
			wantBoth(t, l, z, 0, 0, api.ErrPoly)
			wantShift(t, l, z, nil, api.ErrPoly)
		}
		for _, m := range others {
			wantAdd(t, l, m, nil, api.ErrPoly)
			wantAdd(t, m, l, nil, api.ErrPoly)
			wantMul(t, l, m, nil, api.ErrPoly)
			wantMul(t, m, l, nil, api.ErrPoly)
			wantDiv(t, l, m, nil, nil, api.ErrPoly)
			wantDiv(t, m, l, nil, nil, api.ErrPoly)
		}
		wantSlope(t, l, nil, api.ErrPoly)
		wantBound(t, l, 0, api.ErrPoly)
	}
}

func TestP8_2NoPlace(t *testing.T) {
	for _, z := range strangers() {
		for _, l := range []list{{0}, {1}, {1, 2}, filled(degrees+1, most)} {
			wantAt(t, l, z, 0, api.ErrReal)
			wantBoth(t, l, z, 0, 0, api.ErrReal)
		}
	}
}

func TestP8_2AtEdges(t *testing.T) {
	for _, a := range ends() { // of the degree 0: the coefficient itself, its noughts too
		for _, z := range ends() {
			wantAt(t, list{a}, z, a, api.OK)
			wantBoth(t, list{a}, z, a, 0, api.OK)
		}
	}
	wantAt(t, list{minusBoth, 1}, complex(minusNought, 0), complex(minusNought, 0), api.OK)
	wantAt(t, list{minusBoth, 1}, minusBoth, complex(0, minusNought), api.OK)
	wantBoth(t, list{5, 2 - 3i}, 7, 19-21i, 2-3i, api.OK)
	wantBoth(t, list{5, complex(minusNought, 3)}, 7, complex(5, 21), complex(0, 3), api.OK) // t is (0, 0) first, and is added to
	wantAt(t, list{0, most}, most, most*most, api.OK)                                       // beyond MaxReal, but finite
	wantBoth(t, list{0, 0, most}, most, 0x1p120, 0x1p81, api.OK)
	wantAt(t, ending(24, 1), most, 0x1p960, api.OK)
	wantAt(t, ending(25, 0x1p23), most, 0x1p1023, api.OK)
	wantAt(t, ending(25, 0x1p24), most, 0, api.ErrPlace)
	wantAt(t, ending(26, 1i), -most, 0, api.ErrPlace)
	wantAt(t, filled(degrees+1, complex(most, most)), complex(most, -most), 0, api.ErrPlace)
}

// The value is nought from the second step on, while the slope grows beyond all floats; or the slope is finite, and the value is not.
func TestP8_2OneOfBothIsNotFinite(t *testing.T) {
	l := append(make(list, degrees-1), -most, 1)
	wantAt(t, l, most, 0, api.OK)
	wantBoth(t, l, most, 0, 0, api.ErrPlace)
	wantBoth(t, l[degrees-27:], most, 0, 0, api.ErrPlace)
	wantBoth(t, l[degrees-26:], most, 0, 0x1p1000, api.OK)
	wantBoth(t, l[degrees-25:], most, 0, 0x1p960, api.OK)
	wantBoth(t, ending(25, 0x1p23), most, 0x1p1023, 25*0x1p983, api.OK)
	wantBoth(t, ending(25, 0x1p24), most, 0, 0, api.ErrPlace)
}

func TestP8_9BoundAtEdges(t *testing.T) {
	for _, a := range noughts {
		wantBound(t, list{a}, 0, api.ErrPlace)
	}
	for _, a := range ends() {
		if a != 0 {
			wantBound(t, list{a}, 0, api.OK)
		}
	}
	const tick = 0x1p-52
	for _, r := range []struct {
		l     list
		ought float64
	}{
		{list{0, 1}, 1 + tick}, // the least float is lost, but for the step upward
		{list{minusBoth, complex(0, -most)}, 1 + tick},
		{ending(degrees, 1), 1 + tick},
		{list{3, 2i}, 2.5 + 4*tick},
		{list{3, complex(minusNought, -2)}, 2.5 + 4*tick},
		{list{complex(-1, 2), 2}, 2.5 + 4*tick},                     // both parts' worths together
		{list{12, 3 - 4i}, 4 + 8*tick},                              // not the length 5, not the sum 7: the greater one
		{list{12, -4 + 3i}, 4 + 8*tick},                             // on either side
		{list{1, -3i, 0.5, 2}, 2.5 + 4*tick},                        // the greatest, in the middle
		{list{1, 0.5, 3, 2}, 2.5 + 4*tick},                          // the one ahead of the last one counts too
		{list{1, 0.5, 3, complex(least, 2)}, 2.5 + 4*tick},          // and the last one not
		{list{0, complex(least, 0)}, 2 + 2*tick},                    // 1 + Up(1) comes to 2
		{list{0, complex(0, -least)}, 2 + 2*tick},                   // by the other part alone
		{list{complex(0, least), complex(least, 0)}, 3 + 4*tick},    // Up(2 * least / least)
		{list{0x1p24 - 4*0x1p-29, 0x1p-1000}, greatest},             // each step upward comes just to the greatest float
		{list{0, 0x1p24 - 4*0x1p-29, 0, -0x1p-1000 * 1i}, greatest}, // whichever coefficient it is
	} {
		wantBound(t, r.l, r.ought, api.OK)
	}
	for _, l := range []list{{1, complex(least, 0)}, {most, complex(least, -least)}, {0x1p24, 0x1p-1000}, {0x1p24 - 0x1p-29, 0x1p-1000}, {0x1p24 - 2*0x1p-29, 0x1p-1000}, {0x1p24 - 3*0x1p-29, 0x1p-1000}} {
		wantBound(t, l, 0, api.ErrPlace)
	}
}
