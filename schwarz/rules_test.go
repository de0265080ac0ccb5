package schwarz_test

import (
	"math"
	"testing"

	"eddy/api"
	"eddy/schwarz"
)

// turnedBack is w turned back by so many half circles.
func turnedBack(w complex128, halves float64) complex128 {
	sin, cos := math.Sincos(math.Mod(halves, 2) * math.Pi)
	return complex(real(w)*cos+imag(w)*sin, imag(w)*cos-real(w)*sin)
}

// bend is the sum of (angle - 1) of the corners that are not among the first k.
func bend(s shape, k int) (d float64) {
	for _, t := range s.angles[k:] {
		d += t - 1
	}
	return d
}

// checkStraight wants the slope between the corners k - 1 and k to go one way alone.
func checkStraight(t *testing.T, s shape, k int, z complex128) {
	t.Helper()
	w, e := schwarz.Slope(s.at, s.angles, z)
	if e != api.OK {
		t.Errorf("Slope of %x, %x: %d", s, z, int(e))
		return
	}
	if b := turnedBack(w, bend(s, k)); !(math.Abs(imag(b)) <= 0x1p-40*length(w)) || !(real(b) > 0) {
		t.Errorf("Slope of %x, %x: %x, turned back %x", s, z, w, b)
	}
}

func TestP19_6OneWayAlone(t *testing.T) {
	d, asked := newDice(), 0
	for range 20000 {
		s := d.good()
		k := 1 + d.below(len(s.at)-1)
		a, b := s.at[k-1], s.at[k]
		if !(b-a >= 2*nearest) {
			continue
		}
		for _, x := range []float64{a + d.unit()*(b-a), a + nearest, b - nearest} {
			if x-a >= nearest && b-x >= nearest {
				asked++
				checkStraight(t, s, k, complex(x, d.nought()))
			}
		}
	}
	if asked < 10000 {
		t.Errorf("no more than %d were asked", asked)
	}
}

// So the sides are straight, and from each to the next one the way turns by Pi less the angle between them.
func TestP19_6StraightSides(t *testing.T) {
	d := newDice()
	for n := 3; n <= 16; n++ {
		s := shape{even(n).at, d.bends(n)}
		l, e := schwarz.Corners(s.at, s.angles, 3)
		if e != api.OK {
			t.Fatalf("Corners of %x: %d", s, int(e))
		}
		for i := range n - 1 {
			side := l[i+1] - l[i]
			b := turnedBack(side, bend(s, i+1))
			if !(math.Abs(imag(b)) <= 0x1p-38*(length(l[i])+length(side))) || !(real(b) > 0) {
				t.Errorf("the side %d of %v: %v, turned back %v", i, s, side, b)
			}
		}
	}
}

// lengthy is a place of the upper half plane whose length is from 2^-20 to 2^20, often on the line.
func (d *dice) lengthy() complex128 {
	for {
		z := complex(d.part(-24, 20), math.Abs(d.part(-24, 20)))
		switch d.below(8) {
		case 0:
			z = complex(real(z), d.nought())
		case 1:
			z = complex(d.nought(), imag(z))
		}
		if l := length(z); 0x1p-20 <= l && l <= 0x1p20 {
			return z
		}
	}
}

// Where Strip's imaginary part is rounded to beyond high, it is taken back to it: Back takes nothing beyond.
func TestP19_6ThereAndBack(t *testing.T) {
	d := newDice()
	for range 100000 {
		z, high := d.lengthy(), math.Ldexp(1+d.unit(), d.below(20)-10)
		w, e := schwarz.Strip(z, high)
		if e != api.OK {
			t.Errorf("Strip of %x, %x: %d", z, high, int(e))
			continue
		}
		back, e := schwarz.Back(complex(real(w), math.Min(imag(w), high)), high)
		if e != api.OK || !(length(back-z) <= 0x1p-40*length(z)) {
			t.Errorf("%x there and back by %x: %x, %d", z, high, back, int(e))
		}
	}
}

func TestP19_6StripIsSoHigh(t *testing.T) {
	d := newDice()
	for range 100000 {
		z, high := d.upper(), d.high()
		w, e := schwarz.Strip(z, high)
		if e == api.OK && !(imag(w) >= 0 && imag(w) <= high+0x1p-40*high) {
			t.Errorf("Strip of %x, %x: %x", z, high, w)
		}
	}
}
