package schwarz_test

import (
	"math"
	"testing"

	"eddy/api"
	"eddy/power"
	"eddy/schwarz"
)

// wrongHigh is how high no strip may be.
func wrongHigh() floats {
	return floats{0, minusNought, -1, -nearest, -farthest, math.Nextafter(nearest, 0), least, beyond, greatest, infinite, -infinite, none}
}

func TestP19_5StripErrors(t *testing.T) {
	noughts := list{0, complex(minusNought, 0), complex(0, minusNought), complex(minusNought, minusNought)}
	for _, high := range append(wrongHigh(), nearest, 2, farthest) {
		for _, z := range noPlaces {
			wantStrip(t, z, high, 0, api.ErrReal)
		}
	}
	for _, high := range wrongHigh() {
		for _, z := range append(append(list{1i}, lowPlaces...), noughts...) {
			wantStrip(t, z, high, 0, api.ErrReal)
		}
	}
	for _, high := range []float64{nearest, 2, farthest} {
		for _, z := range append(append(list{}, lowPlaces...), noughts...) {
			wantStrip(t, z, high, 0, api.ErrPlace)
		}
	}
}

func TestP19_5StripEdges(t *testing.T) {
	for _, high := range []float64{nearest, math.Nextafter(nearest, 1), 1, 2, half, math.Nextafter(farthest, 0), farthest} {
		for _, z := range append(list{least, complex(-least, minusNought), complex(0, least), complex(minusNought, least)}, edgePlaces...) {
			told := scale(power.Log(complex(real(z), math.Abs(imag(z)))), over(high, half))
			wantStrip(t, z, high, told, api.OK)
		}
	}
}

// A minus nought beside a number below nought is no other side of the cut.
func TestP19_5StripOfMinusNought(t *testing.T) {
	for _, x := range []float64{-1, 1, -0.3, -farthest, farthest, -least, 0x1p-20} {
		for _, high := range []float64{nearest, 1, 2, 3, farthest} {
			w, e := schwarz.Strip(complex(x, 0), high)
			wantStrip(t, complex(x, minusNought), high, w, e)
			if e != api.OK || x > 0 && !sameFloats(imag(w), 0) || x < 0 && math.Abs(imag(w)-high) > 0x1p-50*high {
				t.Errorf("Strip of %v, %v: %x, %d", x, high, w, int(e))
			}
		}
	}
}

// The factor is rounded by itself: high times the logarithm, and then over H, would often be another float.
func TestP19_5FactorsAreRounded(t *testing.T) {
	d, there, back := newDice(), 0, 0
	for range 1000 {
		z, high := complex(d.part(-3, 3), math.Abs(d.part(-3, 3))), math.Abs(d.part(-10, 10))
		log := power.Log(z)
		w := scale(log, over(high, half))
		wantStrip(t, z, high, w, api.OK)
		if real(w) != over(times(real(log), high), half) {
			there++
		}
		w = complex(real(w), math.Min(imag(w), high))
		wantBack(t, w, high, power.Exp(scale(w, over(half, high))), api.OK)
		if !same(power.Exp(scale(w, over(half, high))), power.Exp(complex(over(times(real(w), half), high), over(times(imag(w), half), high)))) {
			back++
		}
	}
	if there < 100 || back < 100 {
		t.Errorf("the rounding is seen %d and %d times", there, back)
	}
}

func TestP19_5BackErrors(t *testing.T) {
	for _, high := range append(wrongHigh(), nearest, 2, farthest) {
		for _, w := range noPlaces {
			wantBack(t, w, high, 0, api.ErrReal)
		}
	}
	for _, high := range wrongHigh() {
		for _, w := range []complex128{0, 1i, -1i, 3i, complex(1e6, 0)} {
			wantBack(t, w, high, 0, api.ErrReal)
		}
	}
	for _, high := range []float64{nearest, 1, 2, math.Nextafter(farthest, 0)} {
		above := math.Nextafter(high, infinite)
		for _, y := range []float64{-least, -high, -farthest, above, farthest} {
			wantBack(t, complex(0, y), high, 0, api.ErrPlace)
			wantBack(t, complex(-farthest, y), high, 0, api.ErrPlace)
		}
	}
}

func TestP19_5BackEdges(t *testing.T) {
	d := newDice()
	for _, high := range []float64{nearest, 0.7, 1, 2, 3, half, math.Abs(d.part(-9, 9)), math.Nextafter(farthest, 0), farthest} {
		for _, y := range []float64{0, minusNought, least, math.Nextafter(high, 0), high} {
			w := complex(high*d.part(-4, -1), y)
			told := power.Exp(scale(w, over(half, high)))
			wantBack(t, w, high, told, api.OK)
			length := math.Exp(real(w) * half / high)
			switch {
			case y == 0 && !(sameFloats(imag(told), y) && real(told) > 0):
				t.Errorf("Back of %x is %x", w, told)
			case y == high && !(real(told) < 0 && math.Abs(imag(told)) <= 0x1p-40*length):
				t.Errorf("Back of %x, as high as the strip: %x", w, told)
			}
		}
	}
}

func TestP19_5BackBeyondAllFloats(t *testing.T) {
	for _, high := range []float64{nearest, 1, 2, 1000} {
		far := 709.79 * high / half
		for _, y := range []float64{0, minusNought, high / 2, high} {
			wantBack(t, complex(far*1.0001, y), high, 0, api.ErrPlace)
			wantBack(t, complex(farthest, y), high, 0, api.ErrPlace)
			z, e := schwarz.Back(complex(far*0.9999, y), high)
			if e != api.OK || !(length(z) > 0x1p1020) {
				t.Errorf("Back just within all floats: %x, %d", z, int(e))
			}
			z, e = schwarz.Back(complex(-farthest, y), high) // down to nought, which is a number
			if e != api.OK || !like(z, 0) {
				t.Errorf("Back from far left: %x, %d", z, int(e))
			}
		}
	}
	wantBack(t, complex(farthest, 0), farthest, power.Exp(complex(farthest*(half/farthest), 0)), api.OK)
}
