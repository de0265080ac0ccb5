package schwarz_test

import (
	"math"
	"testing"

	"eddy/api"
	"eddy/power"
	"eddy/schwarz"
)

func TestP19_2Errors(t *testing.T) {
	asked := append(append(list{0.25, complex(-1, -1)}, noPlaces...), lowPlaces...)
	for _, c := range wrong() {
		for _, z := range asked {
			wantSlope(t, c.shape, z, 0, c.e)
		}
	}
	for _, z := range noPlaces {
		wantSlope(t, triangle(), z, 0, api.ErrReal)
	}
	for _, z := range lowPlaces {
		wantSlope(t, triangle(), z, 0, api.ErrPlace)
	}
}

// mustSlope is the slope where there is one.
func mustSlope(t *testing.T, s shape, z complex128) complex128 {
	t.Helper()
	w, e := schwarz.Slope(s.at, s.angles, z)
	if e != api.OK {
		t.Fatalf("Slope of %x, %x: %d", s, z, int(e))
	}
	return w
}

func TestP19_2EdgePlaces(t *testing.T) {
	for _, z := range edgePlaces {
		w := mustSlope(t, triangle(), z)
		if w == 0 || !same(w, productSteps(triangle(), z)) {
			t.Errorf("Slope at %x: %x", z, w)
		}
	}
}

// A minus nought is a nought: the line belongs to the half plane above it.
func TestP19_2MinusNought(t *testing.T) {
	d := newDice()
	for range 2000 {
		s := shape{even(5).at, d.bends(5)}
		x := d.part(-3, 3)
		w := mustSlope(t, s, complex(x, 0))
		wantSlope(t, s, complex(x, minusNought), w, api.OK)
	}
}

func TestP19_2AtCorners(t *testing.T) {
	at := floats{-1, 0, 1, 2, 4}
	for i, a := range at {
		for _, y := range []float64{0, minusNought} {
			z := complex(a, y)
			wantSlope(t, shape{at, around(i, 0.5)}, z, 0, api.ErrPlace)
			wantSlope(t, shape{at, around(i, math.Nextafter(1, 0))}, z, 0, api.ErrPlace)
			wantSlope(t, shape{at, around(i, least)}, z, 0, api.ErrPlace)
			if w := mustSlope(t, shape{at, around(i, 1)}, z); w == 0 {
				t.Errorf("no slope straight on at %v", a)
			}
			for _, wide := range []float64{1.5, 1.96875} {
				if w := mustSlope(t, shape{at, around(i, wide)}, z); w != 0 {
					t.Errorf("the slope %x at %v, where the angle is %v", w, a, wide)
				}
			}
		}
	}
}

// around are five angles, one of them told, the others alike.
func around(i int, told float64) floats {
	l := make(floats, 5)
	for j := range l {
		l[j] = (3 - told) / 4
	}
	l[i] = told
	return l
}

// Where the way goes straight on, the place counts for nothing.
func TestP19_2StraightCountsForNothing(t *testing.T) {
	d := newDice()
	for range 500 {
		z := complex(d.part(-2, 2), math.Abs(d.part(-2, 2)))
		w := mustSlope(t, shape{floats{-1, 0, 1}, floats{0.5, 0.25, 0.25}}, z)
		for _, s := range []shape{
			{floats{-1, 0, 1, 2}, floats{0.5, 0.25, 0.25, 1}}, {floats{-1, -0.5, 0, 1}, floats{0.5, 1, 0.25, 0.25}},
			{floats{-1, 0, 0.5, 0.75, 1}, floats{0.5, 0.25, 1, 1, 0.25}},
		} {
			if v := mustSlope(t, s, z); !like(v, w) {
				t.Errorf("Slope of %v, %v: %x, not %x", s, z, v, w)
			}
		}
	}
}

func TestP19_2BeyondAllFloats(t *testing.T) {
	tiny := shape{floats{0, 0x1p-600, 0x1p-599}, floats{0.5, 0.25, 0.25}}
	wantSlope(t, tiny, 0x1p-601, 0, api.ErrPlace)
	wantSlope(t, tiny, complex(0, 0x1p-601), 0, api.ErrPlace)
	if w := mustSlope(t, tiny, 0x1p-400); !(length(w) > 0x1p799 && length(w) < 0x1p801) {
		t.Errorf("the slope %x of what is about 2^-400 away", w)
	}
	// The first factors together come to what is infinite; one of the others is a nought, and cannot mend it.
	s := shape{floats{0, 0x1p-1070, 0x1p-1069, 0x1p-1068, 1}, floats{0x1p-10, 0x1p-10, 0x1p-10, 1.5 - 0x1p-9, 1.5 - 0x1p-10}}
	wantSlope(t, s, 1, productSteps(s, 1), api.OK)
	wantSlope(t, s, 0x1p-1073, 0, api.ErrPlace)
}

// The first factor is not taken times one: where all imaginary parts are minus noughts, so is that of the product.
func TestP19_2FirstFactorAsItIs(t *testing.T) {
	s := square(0, 1, 2, 3)
	w := mustSlope(t, s, 5)
	if !sameFloats(imag(w), minusNought) {
		t.Errorf("the imaginary part is %x", imag(w))
	}
	first := power.Real(5, 0.5-1)
	if !same(first, complex(real(first), minusNought)) {
		t.Fatalf("one factor is %x", first)
	}
}

// The product goes from the left: from the right, or by pairs, its last bits would be other ones.
func TestP19_2FromTheLeft(t *testing.T) {
	d, right, pairs := newDice(), 0, 0
	for range 300 {
		s := shape{even(4).at, d.bends(4)}
		z := complex(d.part(-2, 2), math.Abs(d.part(-2, 2)))
		var f [4]complex128
		for i := range f {
			f[i] = power.Real(z-complex(s.at[i], 0), s.angles[i]-1)
		}
		wantSlope(t, s, z, mul(mul(mul(f[0], f[1]), f[2]), f[3]), api.OK)
		if w := mustSlope(t, s, z); !same(w, mul(f[0], mul(f[1], mul(f[2], f[3])))) {
			right++
		} else if !same(w, mul(mul(f[0], f[1]), mul(f[2], f[3]))) {
			pairs++
		}
	}
	if right < 100 || pairs < 1 {
		t.Errorf("the order is seen %d and %d times", right, pairs)
	}
}
