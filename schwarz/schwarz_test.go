package schwarz_test

import (
	"math"
	"testing"

	"eddy/api"
	"eddy/schwarz"
)

type (
	floats = []float64
	list   = []complex128
)

// shape is what makes a map: the corners' places and the angles there.
type shape struct{ at, angles floats }

const (
	least    = 0x1p-1074
	greatest = math.MaxFloat64
	farthest = 0x1p40
	nearest  = 0x1p-40
	steps    = 16384
	half     = math.Pi // the higher one of both floats that Pi is told by
)

var (
	minusNought = math.Copysign(0, -1)
	infinite    = math.Inf(1)
	none        = math.NaN()
	beyond      = math.Nextafter(farthest, infinite)
	// noPlaces are no places, each by one part at least; edgePlaces are some of the upper half plane, though just so.
	noPlaces   = list{complex(none, 0), complex(0, none), complex(infinite, 1), complex(1, infinite), complex(1, -infinite), complex(beyond, 0), complex(-beyond, 0), complex(0, beyond), complex(0, -beyond), complex(none, none), complex(none, -1)}
	edgePlaces = list{farthest, -farthest, complex(0.25, farthest), complex(farthest, farthest), complex(-farthest, farthest), complex(0.25, least), complex(0.25, minusNought)}
	lowPlaces  = list{complex(0, -1), complex(0.25, -least), complex(3, -farthest), complex(-farthest, -0x1p-1022)}
	noReals    = floats{none, infinite, -infinite, beyond, -beyond, greatest}
)

// triangle is the one of the chapter's examples.
func triangle() shape { return shape{floats{-1, 0, 1}, floats{0.5, 0.25, 0.25}} }

// square has the same angle at each of its four places.
func square(at ...float64) shape { return shape{at, floats{0.5, 0.5, 0.5, 0.5}} }

// even has so many places one after the other, and the same angle at each, as near as floats come.
func even(n int) (s shape) {
	for i := range n {
		s.at = append(s.at, float64(i))
		s.angles = append(s.angles, float64(n-2)/float64(n))
	}
	return s
}

// refused is a shape that may not be, with Check's error of it.
type refused struct {
	shape
	e api.Errno
}

func wrong() []refused {
	return []refused{
		{shape{}, api.ErrMany},
		{shape{floats{0, 1}, floats{0.5, 0.5}}, api.ErrMany},
		{even(17), api.ErrMany},
		{shape{floats{0, none, 1}, floats{0.5, 0.25, 0.25}}, api.ErrReal},
		{shape{floats{-1, 0, 1}, floats{0.5, 0.5}}, api.ErrMany},
		{shape{floats{-1, 0, 1}, floats{0.5, infinite, 0.5}}, api.ErrReal},
		{shape{floats{0, 1, 1}, floats{0.5, 0.25, 0.25}}, api.ErrPolygon},
		{shape{floats{-1, 0, 1}, floats{1, 1, 1}}, api.ErrPolygon},
	}
}

// dice tells words, the same ones at each run.
type dice uint64

func newDice() *dice {
	d := dice(0x9e3779b97f4a7c15)
	return &d
}

func (d *dice) word() uint64 {
	x := *d
	x ^= x << 13
	x ^= x >> 7
	x ^= x << 17
	*d = x
	return uint64(x)
}

func (d *dice) below(n int) int { return int(d.word() % uint64(n)) }

// unit is a float from 0 to below 1.
func (d *dice) unit() float64 { return float64(d.word()>>12) * 0x1p-52 }

// part is a float of either sign, from 2^low to below 2^high in worth.
func (d *dice) part(low, high int) float64 {
	sign := float64(int64(d.word()))
	x := math.Ldexp(1+d.unit(), low+d.below(high-low))
	return math.Copysign(x, sign)
}

func (d *dice) whole(reach int) float64 { return float64(d.below(2*reach+1) - reach) }

func (d *dice) nought() float64 { return floats{0, minusNought}[d.below(2)] }

// worth is one of any kind of worth that a place's part may have.
func (d *dice) worth() float64 {
	switch d.below(6) {
	case 0:
		l := floats{0, minusNought, 1, -1, farthest, -farthest, least, 0x1p-1022, nearest, -0x1p-200, half}
		return l[d.below(len(l))]
	case 1:
		return d.part(-1074, 40)
	case 2:
		return d.whole(4)
	}
	return d.part(-3, 3)
}

// float is any float at all, often no real.
func (d *dice) float() float64 {
	if d.below(3) == 0 {
		return noReals[d.below(len(noReals))]
	}
	return d.worth()
}

// upper is a place of the upper half plane.
func (d *dice) upper() complex128 {
	switch d.below(6) {
	case 0:
		return complex(d.whole(4), d.nought())
	case 1:
		return complex(d.worth(), math.Abs(d.worth()))
	case 2:
		return complex(d.part(-3, 3), d.nought())
	}
	return complex(d.part(-3, 3), math.Abs(d.part(-3, 3)))
}

// number is a place of the upper half plane, or any number.
func (d *dice) number() complex128 {
	switch d.below(12) {
	case 0:
		return complex(d.float(), d.float())
	case 1:
		return complex(d.worth(), d.worth())
	}
	return d.upper()
}

// places are so many, strictly rising: wide apart, close together, or as near as floats come.
func (d *dice) places(n int) floats {
	l := floats{d.worth()}
	kind := d.below(5)
	for len(l) < n {
		gap := 1.0
		switch kind {
		case 1:
			gap = math.Abs(d.part(-3, 2))
		case 2:
			gap = math.Abs(d.part(-40, 30))
		case 3:
			gap = math.Abs(d.part(-1074, -900))
		case 4:
			gap = 0
		}
		last := l[len(l)-1]
		l = append(l, math.Max(last+gap, math.Nextafter(last, infinite)))
	}
	if last := l[n-1]; last > farthest {
		for i := range l {
			l[i] -= last - farthest
		}
	}
	return l
}

// bends are so many angles whose sum is n - 2 without a rest: so much as one loses another one gets.
func (d *dice) bends(n int) floats {
	const one = 1 << 20
	shares := make([]int, n)
	for i := range shares {
		shares[i] = (n - 2) * one / n
	}
	shares[0] += (n-2)*one - shares[0]*n
	for range d.below(40) {
		i, j := d.below(n), d.below(n)
		most := min(shares[i]-1, 2*one-1-shares[j])
		switch {
		case i == j || most < 1:
		case d.below(8) == 0:
			shares[i], shares[j] = shares[i]-most, shares[j]+most // down to nearly 0, or up to nearly 2
		case d.below(8) == 0 && shares[i] > one && shares[i]-one <= most:
			shares[i], shares[j] = one, shares[j]+shares[i]-one // straight on
		default:
			by := 1 + d.below(most)
			shares[i], shares[j] = shares[i]-by, shares[j]+by
		}
	}
	l := make(floats, n)
	for i, share := range shares {
		l[i] = float64(share) / one
	}
	return l
}

// good is a map's shape; hardly any may not be.
func (d *dice) good() shape {
	n := 3 + d.below(4)
	if d.below(8) == 0 {
		n = 3 + d.below(14)
	}
	return shape{d.places(n), d.bends(n)}
}

// any is any shape at all.
func (d *dice) any() shape {
	s := d.good()
	n := len(s.at)
	i, j := d.below(n), d.below(n)
	switch d.below(24) {
	case 0:
		s.at = s.at[:i]
	case 1:
		s.angles = s.angles[:i]
	case 2:
		s.at[i] = d.float()
	case 3:
		s.angles[i] = d.float()
	case 4:
		s.at[i] = s.at[j]
	case 5:
		s.at[i], s.at[j] = s.at[j], s.at[i]
	case 6:
		s.angles[i] += d.part(-46, -36)
	case 7:
		s.angles[i] = floats{0, 2, minusNought, -1, least}[d.below(5)]
	case 8:
		s.at[i], s.angles[j] = d.float(), d.float()
	case 9:
		s.at, s.angles = append(s.at, d.places(14)...), append(s.angles, d.bends(14)...)
	case 10:
		s.at[i], s.angles = d.float(), s.angles[:j]
	}
	return s
}

func sameFloats(a, b float64) bool {
	return math.IsNaN(a) && math.IsNaN(b) || math.Float64bits(a) == math.Float64bits(b)
}

func same(a, b complex128) bool {
	return sameFloats(real(a), real(b)) && sameFloats(imag(a), imag(b))
}

func sameLists(a, b list) bool {
	if len(a) != len(b) {
		return false
	}
	for i := range a {
		if !same(a[i], b[i]) {
			return false
		}
	}
	return true
}

// like is for finite numbers: noughts alike.
func like(a, b complex128) bool { return real(a) == real(b) && imag(a) == imag(b) }

func isFinite(a complex128) bool {
	return math.Abs(real(a)) <= greatest && math.Abs(imag(a)) <= greatest
}

func length(a complex128) float64 { return math.Hypot(real(a), imag(a)) }

func wantCheck(t *testing.T, s shape, ought api.Errno) {
	t.Helper()
	if e := schwarz.Check(s.at, s.angles); e != ought {
		t.Errorf("Check of %x: %d, not %d", s, int(e), int(ought))
	}
}

func wantSlope(t *testing.T, s shape, z, ought complex128, refusal api.Errno) {
	t.Helper()
	if w, e := schwarz.Slope(s.at, s.angles, z); e != refusal || !same(w, ought) {
		t.Errorf("Slope of %x, %x: %x, %d, not %x, %d", s, z, w, int(e), ought, int(refusal))
	}
}

func wantBetween(t *testing.T, s shape, from, to complex128, pieces int, ought complex128, refusal api.Errno) {
	t.Helper()
	if w, e := schwarz.Between(s.at, s.angles, from, to, pieces); e != refusal || !same(w, ought) {
		t.Errorf("Between of %x, %x, %x, %d: %x, %d, not %x, %d", s, from, to, pieces, w, int(e), ought, int(refusal))
	}
}

func wantCorners(t *testing.T, s shape, pieces int, ought list, refusal api.Errno) {
	t.Helper()
	if l, e := schwarz.Corners(s.at, s.angles, pieces); e != refusal || !sameLists(l, ought) {
		t.Errorf("Corners of %x, %d: %x, %d, not %x, %d", s, pieces, l, int(e), ought, int(refusal))
	}
}

func wantStrip(t *testing.T, z complex128, high float64, ought complex128, refusal api.Errno) {
	t.Helper()
	if w, e := schwarz.Strip(z, high); e != refusal || !same(w, ought) {
		t.Errorf("Strip of %x, %x: %x, %d, not %x, %d", z, high, w, int(e), ought, int(refusal))
	}
}

func wantBack(t *testing.T, w complex128, high float64, ought complex128, refusal api.Errno) {
	t.Helper()
	if z, e := schwarz.Back(w, high); e != refusal || !same(z, ought) {
		t.Errorf("Back of %x, %x: %x, %d, not %x, %d", w, high, z, int(e), ought, int(refusal))
	}
}
