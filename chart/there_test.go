package chart_test

import (
	"math"
	"testing"

	"eddy/api"
	"eddy/chart"
	powers "eddy/power"
)

func wantNeither(t *testing.T, m api.Map, z complex128, refusal api.Errno) {
	t.Helper()
	wantAt(t, m, z, 0, refusal)
	wantSlope(t, m, z, 0, refusal)
}

func wantBothTold(t *testing.T, m api.Map, z, at, slope complex128) {
	t.Helper()
	wantAt(t, m, z, at, api.OK)
	wantSlope(t, m, z, slope, api.OK)
}

func TestP18_2Moebius(t *testing.T) {
	over := moebius(0, 1, 1, 0)
	for _, o := range noughts {
		wantNeither(t, over, o, api.ErrPlace)
		wantNeither(t, joukowski(2i), o, api.ErrPlace)
	}
	wantNeither(t, moebius(1, 2, 1, -3), 3, api.ErrPlace)
	wantNeither(t, moebius(1, 2, 1i, 1), 1i, api.ErrPlace)
	wantNeither(t, moebius(1, 0, 1, complex(-farthest, farthest)), complex(farthest, -farthest), api.ErrPlace)
	// A pole where rounding makes one: C z is 1 - 2^-60, rounded to 1.
	wantNeither(t, moebius(1, 0, 1+0x1p-30, -1), 1-0x1p-30, api.ErrPlace)
	// Not quite a pole.
	wantAt(t, moebius(1, 0, 1, -1), 1+0x1p-52, 0x1p52+1, api.OK)
	wantSlope(t, moebius(1, 0, 1, -1), 1+0x1p-52, complex(-0x1p104, 0), api.OK)
	// 1 over the least float is beyond all floats; the square below the slope is too little already.
	wantNeither(t, over, least, api.ErrPlace)
	wantAt(t, over, 0x1p-1022, 0x1p1022, api.OK)
	wantSlope(t, over, 0x1p-1022, 0, api.ErrPlace)
	wantAt(t, over, 0x1p-540, 0x1p540, api.OK)
	wantSlope(t, over, 0x1p-540, 0, api.ErrPlace)
	wantSlope(t, over, 0x1p-512, 0, api.ErrPlace)
	wantBothTold(t, over, 0x1p-511, 0x1p511, -0x1p1022)
	// Far out, and where D alone is below.
	wantBothTold(t, over, farthest, 0x1p-40, -0x1p-80)
	wantBothTold(t, moebius(2, 3i, 0, 1), 5-1i, 10+1i, 2)
	wantAt(t, moebius(farthest, farthest, 0, 0x1p-900), farthest, 0x1p980+0x1p940, api.OK)
	wantAt(t, moebius(farthest, farthest, 0, 0x1p-960), farthest, 0, api.ErrPlace)
}

func TestP18_2Joukowski(t *testing.T) {
	for _, r := range []struct{ a, z, at, slope complex128 }{
		{1, 1, 2, 0},
		{1, -1, -2, 0},
		{1, 1i, 0, 2},
		{1, 2, 2.5, 0.75},
		{1i, 2, 1.5, 1.25},
		{-1i, 2, 1.5, 1.25},
		{2, 1 + 1i, 3 - 1i, 1 + 2i},
		{1 + 1i, 2, 2 + 1i, 1 - 0.5i},
		{0x1p-30, 1, 1 + 0x1p-60, 1 - 0x1p-60},
		{farthest, 1, 0x1p80, -0x1p80},
	} {
		at, e := chart.At(joukowski(r.a), r.z)
		slope, f := chart.Slope(joukowski(r.a), r.z)
		if e != api.OK || f != api.OK || !like(at, r.at) || !like(slope, r.slope) {
			t.Errorf("Joukowski's of %v at %v: %v, %v, %d, %d", r.a, r.z, at, slope, int(e), int(f))
		}
	}
	// Where the quotient is beyond all floats, or none.
	wantNeither(t, joukowski(1), least, api.ErrPlace)
	wantAt(t, joukowski(1), 0x1p-540, 0x1p540, api.OK)
	wantSlope(t, joukowski(1), 0x1p-540, 0, api.ErrPlace)
	wantAt(t, joukowski(0x1p-540), 0x1p-540, 0x1p-540, api.OK) // its square is too little for floats
	wantSlope(t, joukowski(0x1p-540), 0x1p-540, 0, api.ErrPlace)
	// The noughts' signs, on both sides of the cut there and of the real line.
	wantAt(t, joukowski(1), complex(-2, 0), complex(-2.5, 0), api.OK)
	wantAt(t, joukowski(1), complex(-2, minusNought), complex(-2.5, minusNought), api.OK)
	wantAt(t, joukowski(1), complex(2, minusNought), complex(2.5, 0), api.OK)
	wantAt(t, joukowski(1), complex(minusNought, 2), complex(0, 1.5), api.OK)
}

// A place whose distance from B is nought, of any sign.
func TestP18_2PowersAtB(t *testing.T) {
	const slightly = 0x1p-52
	for _, b := range []complex128{0, 3, 2i, complex(farthest, -farthest), complex(least, minusNought)} {
		for _, a := range []complex128{1, 2i, -3} {
			for _, r := range []struct {
				p     float64
				slope complex128
				e     api.Errno
			}{
				{0.25, 0, api.ErrPlace}, {0.5, 0, api.ErrPlace}, {1 - slightly, 0, api.ErrPlace},
				{1, a, api.OK},
				{1 + slightly, 0, api.OK}, {1.5, 0, api.OK}, {3.75, 0, api.OK}, {2, 0, api.OK}, {3, 0, api.OK}, {4, 0, api.OK},
			} {
				at, e := chart.At(power(a, b, r.p), b)
				slope, f := chart.Slope(power(a, b, r.p), b)
				if e != api.OK || f != r.e || !like(at, 0) || !like(slope, r.slope) {
					t.Errorf("At and Slope of %v (z - %v)^%v at %v: %v, %v, %d, %d", a, b, r.p, b, at, slope, int(e), int(f))
				}
			}
		}
	}
	for _, o := range noughts {
		for _, b := range noughts {
			// Broken powers tell noughts without a minus; of whole ones they are as they come.
			wantBothTold(t, power(-1, b, 1.5), o, 0, 0)
			wantAt(t, power(-1, b, 0.5), o, 0, api.OK)
			wantSlope(t, power(-1, b, 0.5), o, 0, api.ErrPlace)
			d := sub(o, b)
			wantBothTold(t, power(-1, b, 2), o, mul(-1, mul(d, d)), mul(-2, d))
			wantBothTold(t, power(-1, b, 1), o, mul(-1, d), mul(-1, 1))
		}
	}
}

// Whole powers are products: to the bit, and no cut is seen.
func TestP18_2WholePowers(t *testing.T) {
	for _, r := range []struct {
		p            float64
		z, at, slope complex128
	}{
		{1, 2 + 1i, 2 + 1i, 1},
		{2, 2 + 1i, 3 + 4i, 4 + 2i},
		{3, 2 + 1i, 2 + 11i, 9 + 12i},
		{4, 2 + 1i, -7 + 24i, 8 + 44i},
		{2, -3, 9, -6}, {3, -3, -27, 27}, {4, -3, 81, -108},
		{4, farthest, 0x1p160, 0x1p122},
	} {
		for _, b := range []complex128{0, 1 - 2i} {
			if real(r.z) == farthest && b != 0 {
				continue
			}
			m, z := power(2i, b, r.p), r.z+b
			at, e := chart.At(m, z)
			slope, f := chart.Slope(m, z)
			if e != api.OK || f != api.OK || !like(at, mul(2i, r.at)) || !like(slope, mul(2i, r.slope)) {
				t.Errorf("2i z^%v at %v: %v, %v, %d, %d", r.p, r.z, at, slope, int(e), int(f))
			}
		}
	}
	for _, p := range []float64{1, 2, 3, 4} {
		above, _ := chart.At(power(1, 0, p), complex(-3, 0))
		below, _ := chart.At(power(1, 0, p), complex(-3, minusNought))
		if !like(above, below) {
			t.Errorf("(-3)^%v: %v from above, %v from below", p, above, below)
		}
	}
	// Just beside a whole power the logarithm is taken: -3 to the power of 2 is not quite real then.
	for _, p := range []float64{math.Nextafter(2, 3), math.Nextafter(2, 1)} {
		m := power(1, 0, p)
		at, e := chart.At(m, -3)
		ought, _ := atSteps(m, -3)
		if e != api.OK || !same(at, ought) || imag(at) == 0 {
			t.Errorf("(-3)^%v: %v, %d", p, at, int(e))
		}
	}
}

// On the cut the sign of d's nought tells the side.
func TestP18_2PowersAtTheCut(t *testing.T) {
	for _, r := range []struct{ p, size, angle float64 }{{0.5, 2, 0.5}, {1.5, 8, 1.5}, {2.5, 32, 2.5}, {0.25, math.Sqrt2, 0.25}, {3.5, 128, 3.5}} {
		for _, side := range []float64{0, minusNought} {
			turn := math.Copysign(r.angle*math.Pi, side)
			ought := complex(r.size*math.Cos(turn), math.Copysign(r.size, side)*math.Sin(math.Abs(turn)))
			z := complex(-4, side)
			at, e := chart.At(power(1, 0, r.p), z)
			if e != api.OK || length(at-ought) > 1e-12*r.size {
				t.Errorf("(%v)^%v: %v, %d, not %v", z, r.p, at, int(e), ought)
			}
			slope, e := chart.Slope(power(1, 0, r.p), z)
			if rate := complex(r.p/4, 0) * -ought; e != api.OK || length(slope-rate) > 1e-12*r.size {
				t.Errorf("Slope of z^%v at %v: %v, %d, not %v", r.p, z, slope, int(e), rate)
			}
		}
	}
	// A difference of noughts: of z and B on one line d's nought has no minus, but for -0 less 0.
	m := power(1, complex(3, 0), 0.5)
	for _, r := range []struct{ b, z, side float64 }{{0, 0, 1}, {0, minusNought, -1}, {minusNought, 0, 1}, {minusNought, minusNought, 1}} {
		m.B = complex(3, r.b)
		at, e := chart.At(m, complex(-1, r.z))
		if e != api.OK || math.Abs(imag(at)-2*r.side) > 1e-12 {
			t.Errorf("(z - %v)^0.5 at %v: %v, %d", m.B, complex(-1, r.z), at, int(e))
		}
	}
}

func TestP18_2Exp(t *testing.T) {
	m := exp(1, 1)
	// The exponential is beyond all floats above 709.79; times A it may be sooner, or not at all.
	wantAt(t, m, 0, 1, api.OK)
	wantNeither(t, m, 710, api.ErrPlace)
	wantNeither(t, m, 709.8, api.ErrPlace)
	wantNeither(t, m, complex(710, 1), api.ErrPlace)
	wantNeither(t, exp(0x1p-100, 1), 710, api.ErrPlace)
	wantNeither(t, exp(farthest, 1), 700, api.ErrPlace)
	wantNeither(t, exp(2, 1), 709.7, api.ErrPlace)
	wantNeither(t, exp(1, farthest), farthest, api.ErrPlace)
	wantAt(t, exp(1, 2), 354.8, mustAt(t, m, 709.6), api.OK)
	wantSlope(t, exp(1, 2), 354.8, 0, api.ErrPlace) // twice as much
	for _, z := range []complex128{709, 700 + 1i} {
		if at, e := chart.At(m, z); e != api.OK || !isFinite(at) || length(at) < 0x1p1000 {
			t.Errorf("exp of %v: %v, %d", z, at, int(e))
		}
	}
	// It vanishes below -745.14, whatever the angle.
	for _, z := range []complex128{-746, -farthest, complex(-746, 3)} {
		at, e := chart.At(m, z)
		slope, f := chart.Slope(m, z)
		if e != api.OK || f != api.OK || !like(at, 0) || !like(slope, 0) {
			t.Errorf("exp of %v: %v, %v, %d, %d", z, at, slope, int(e), int(f))
		}
	}
	// Angles beyond 2^20 are told by no number, where they are not nought.
	wantNeither(t, m, complex(0, 0x1p20+1), api.ErrPlace)
	wantNeither(t, m, complex(-800, -0x1p20-1), api.ErrPlace)
	wantNeither(t, exp(1, 1i), 0x1p21, api.ErrPlace)
	if _, e := chart.At(m, complex(0, 0x1p20)); e != api.OK {
		t.Errorf("exp of 2^20 i: %d", int(e))
	}
	if _, e := chart.Slope(exp(1, 1i), -0x1p20); e != api.OK {
		t.Errorf("exp of -2^20 i: %d", int(e))
	}
	// The noughts as they come: a product with 1 loses a minus.
	wantAt(t, m, complex(1, minusNought), powers.Exp(1), api.OK)
	wantAt(t, exp(complex(1, minusNought), complex(1, minusNought)), complex(1, minusNought), conj(powers.Exp(1)), api.OK)
}

func mustAt(t *testing.T, m api.Map, z complex128) complex128 {
	t.Helper()
	w, e := chart.At(m, z)
	if e != api.OK {
		t.Errorf("At of %v, %v: %d", m, z, int(e))
	}
	return w
}
