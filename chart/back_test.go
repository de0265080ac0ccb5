package chart_test

import (
	"math"
	"testing"

	"eddy/angle"
	"eddy/api"
	"eddy/chart"
	powers "eddy/power"
)

// wantNear is for what is told but for a little.
func wantNear(t *testing.T, m api.Map, w complex128, other bool, ought complex128) {
	t.Helper()
	z, e := chart.Back(m, w, other)
	if e != api.OK || length(z-ought) > 1e-13*(1+length(ought)) {
		t.Errorf("Back of %v, %v, %t: %v, %d, not %v", m, w, other, z, int(e), ought)
	}
}

func wantNothing(t *testing.T, m api.Map, w complex128, refusal api.Errno) {
	t.Helper()
	wantBack(t, m, w, false, 0, refusal)
	wantBack(t, m, w, true, 0, refusal)
}

func TestP18_3Moebius(t *testing.T) {
	over := moebius(0, 1, 1, 0)
	for _, o := range noughts {
		wantNothing(t, over, o, api.ErrBranch)
	}
	for _, w := range []complex128{0, 1, 2i, farthest} {
		wantBack(t, over, w, true, 0, api.ErrBranch)
		wantBack(t, moebius(1, 2, 3, 4), w, true, 0, api.ErrBranch)
	}
	wantNear(t, moebius(1, 2, 3, 4), mustAt(t, moebius(1, 2, 3, 4), 2-1i), false, 2-1i)
	wantBack(t, moebius(2, 3i, 0, 1), 10+1i, false, 5-1i, api.OK)
	// What z at infinity comes to: A / C.
	wantBack(t, moebius(6, 1, 2, 1), 3, false, 0, api.ErrBranch)
	wantBack(t, moebius(6i, 1, 2, 1), 3i, false, 0, api.ErrBranch)
	wantBack(t, moebius(1, 1, 1+0x1p-30, 0), 1-0x1p-30, false, 0, api.ErrBranch) // rounding makes it so
	wantBack(t, moebius(1, 1, 1, 0), 1+0x1p-52, false, 0, api.ErrPlace)
}

// A row of what comes to MaxReal just so, and of what is beyond it.
func TestP18_3Beyond(t *testing.T) {
	add := moebius(1, -1, 0, 1) // goes to z - 1
	wantBack(t, add, farthest-1, false, farthest, api.OK)
	wantBack(t, add, farthest-0.5, false, 0, api.ErrPlace)
	wantBack(t, add, -farthest, false, 1-farthest, api.OK)
	wantBack(t, moebius(1, 1, 0, 1), -farthest, false, 0, api.ErrPlace)
	wantBack(t, moebius(0, 1, 1, 0), 0x1p-40, false, complex(farthest, minusNought), api.OK)
	wantBack(t, moebius(0, 1, 1, 0), complex(0, 0x1p-40), false, complex(minusNought, -farthest), api.OK)
	wantBack(t, moebius(0, 1, 1, 0), complex(math.Nextafter(0x1p-40, 0), 0), false, 0, api.ErrPlace)
	wantBack(t, moebius(0, 1, 1, 0), least, false, 0, api.ErrPlace)

	wantBack(t, joukowski(least), farthest, false, farthest, api.OK)
	wantBack(t, joukowski(1i), farthest, true, complex(-0x1p-40, 0), api.OK)
	wantNothing(t, joukowski(complex(farthest, farthest)), complex(farthest, farthest), api.ErrPlace) // a sixth of the circle away from A, to both sides
	wantNear(t, joukowski(farthest), farthest, false, complex(farthest/2, farthest*math.Sqrt(0.75)))

	wantBack(t, power(1, 0, 1), complex(farthest, -farthest), false, complex(farthest, -farthest), api.OK)
	wantBack(t, power(1, 1, 1), complex(farthest, -farthest), false, 0, api.ErrPlace)
	wantBack(t, power(1, -1, 1), complex(farthest, -farthest), false, complex(farthest-1, -farthest), api.OK)
	wantBack(t, power(0.5, 0, 1), farthest, false, 0, api.ErrPlace)
	wantBack(t, power(least, 0, 1), 1, false, 0, api.ErrPlace)
	wantBack(t, power(least, 0, 2), 1, false, 0, api.ErrPlace)
	wantBack(t, power(least, 0, 2), 1, true, 0, api.ErrPlace)
	wantNear(t, power(1, 0, 0.25), 1023, false, 1023*1023*1023*1023)
	wantBack(t, power(1, 0, 0.25), 1025, false, 0, api.ErrPlace)
	wantBack(t, power(1, 0, 0.5), 0x1p20+1, false, 0, api.ErrPlace)
	wantBack(t, power(1, complex(0, farthest), 2), 4i, false, 0, api.ErrPlace)
	wantBack(t, power(1, complex(0, farthest), 2), 4i, true, complex(-math.Sqrt2, farthest-math.Sqrt2), api.OK)

	wantBack(t, exp(1, 0x1p-60), 1, false, 0, api.OK)
	wantBack(t, exp(1, 0x1p-60), 1, true, 0, api.ErrPlace)
	wantBack(t, exp(1, 0x1p-40), 2, false, scale(powers.Log(2), farthest), api.OK)
	wantBack(t, exp(1, 0x1p-40), 3, false, 0, api.ErrPlace)
	wantBack(t, exp(1, least), 2, false, 0, api.ErrPlace)
	// Of an infinite quotient there is no finite logarithm.
	wantNothing(t, exp(least, 1), 1, api.ErrPlace)
	wantNothing(t, exp(complex(0, least), 1i), farthest, api.ErrPlace)
}

// Which of both is told: the one farther out, where the root goes the way of w.
func TestP18_3Joukowski(t *testing.T) {
	for _, r := range []struct{ a, w, z, other complex128 }{
		{1, 2.5, 2, 0.5},
		{1, -2.5, -2, -0.5},
		{1, 1.5i, 2i, -0.5i},
		{1, -1.5i, -2i, 0.5i},
		{1i, 1.5, 2, -0.5},
		{1i, -1.5, -2, 0.5},
		{1i, 2.5i, 2i, 0.5i},
		{-1i, -2.5i, -2i, -0.5i},
		{-1, 2.5, 2, 0.5},
		{1, 2.4 + 0.8i, 2 + 1i, 0.4 - 0.2i},
		{1, -2.4 + 0.8i, -2 + 1i, -0.4 - 0.2i},
		{1, 2.4 - 0.8i, 2 - 1i, 0.4 + 0.2i},
		{1, -2.4 - 0.8i, -2 - 1i, -0.4 + 0.2i},
		{3 + 1i, farthest, farthest, (8 + 6i) / farthest},
	} {
		wantNear(t, joukowski(r.a), r.w, false, r.z)
		wantNear(t, joukowski(r.a), r.w, true, r.other)
	}
	// Both are at one place.
	for _, a := range []complex128{1, -1, 3, 0x1p39, 0x1p-300} {
		wantNear(t, joukowski(a), 2*a, false, a)
		wantNear(t, joukowski(a), 2*a, true, a)
		wantNear(t, joukowski(a), -2*a, false, -a)
		wantNear(t, joukowski(a), -2*a, true, -a)
	}
}

// Where the sum of products is just nought, on the segment to which the circle is folded, the root stays; the sign of w's nought tells the side.
func TestP18_3JoukowskiSides(t *testing.T) {
	deep := math.Sqrt(3) / 2
	for _, r := range []struct {
		x, y float64
		z    complex128
	}{
		{1, 0, complex(0.5, deep)},
		{1, minusNought, complex(0.5, -deep)},
		{-1, 0, complex(-0.5, deep)},
		{-1, minusNought, complex(-0.5, -deep)},
	} {
		wantNear(t, joukowski(1), complex(r.x, r.y), false, r.z)
		wantNear(t, joukowski(1), complex(r.x, r.y), true, conj(r.z))
	}
	// At nought all four signs make a sum of nought.
	for _, o := range noughts {
		side := math.Copysign(1, imag(o))
		wantNear(t, joukowski(1), o, false, complex(0, side))
		wantNear(t, joukowski(1), o, true, complex(0, -side))
		z, e := backSteps(joukowski(2i), o, false)
		wantBack(t, joukowski(2i), o, false, z, e)
	}
	// The sum is a minus nought here, for its products are too little: then nothing is turned either.
	m, w := joukowski(0x1p-700i), complex(-0x1p-600, 0)
	wantBack(t, m, w, false, 0, api.OK)
	wantBack(t, m, w, true, 0, api.ErrPlace)
}

// By A = (1, 0) a nought keeps its sign, of either sign of A's own nought; by any other A it is as the quotient tells.
func TestP18_3Noughts(t *testing.T) {
	one, minusOne := complex(1, minusNought), complex(-1, minusNought)
	for _, a := range []complex128{1, one} {
		wantNear(t, power(a, 0, 2), complex(-4, 0), false, 2i)
		wantNear(t, power(a, 0, 2), complex(-4, minusNought), false, -2i)
		wantNear(t, power(a, 0, 2), complex(-4, 0), true, -2i)
		wantNear(t, power(a, 0, 2), complex(-4, minusNought), true, 2i)
		wantNear(t, power(a, 1i, 3), complex(-8, 0), false, complex(1, 1+math.Sqrt(3)))
		wantNear(t, power(a, 1i, 3), complex(-8, minusNought), false, complex(1, 1-math.Sqrt(3)))
		wantNear(t, power(a, 0, 1.5), complex(-1, minusNought), false, complex(-0.5, -math.Sqrt(0.75)))
		wantBack(t, power(a, 0, 1), minusOne, false, complex(-1, 0), api.OK) // the sum with B has lost it
		wantBack(t, power(a, minusOne, 1), minusOne, false, complex(-2, minusNought), api.OK)
		wantBack(t, exp(a, 1), complex(-1, 0), false, complex(0, half), api.OK)
		wantBack(t, exp(a, 1), minusOne, false, complex(0, -half), api.OK)
		wantBack(t, exp(a, 1), complex(-1, 0), true, complex(0, 3*half), api.OK)
		wantBack(t, exp(a, 1), minusOne, true, complex(0, half), api.OK)
	}
	// A quotient by 2 has lost the minus of w's nought, one by -1 turns it.
	for _, y := range []float64{0, minusNought} {
		wantNear(t, power(2, 0, 2), complex(-8, y), false, 2i)
		wantNear(t, exp(2, 1), complex(-2, y), false, complex(0, half))
		for _, a := range []complex128{2, -1, 2i, minusOne, complex(2, minusNought), 1 + 0x1p-52} {
			for _, w := range []complex128{complex(-8, y), complex(8, y), complex(y, 8), complex(y, -8)} {
				z, e := backSteps(power(a, 0, 2), w, false)
				wantBack(t, power(a, 0, 2), w, false, z, e)
				z, e = backSteps(exp(a, 1), w, true)
				wantBack(t, exp(a, 1), w, true, z, e)
			}
		}
	}
	// There and back, on both sides of each cut.
	for _, p := range []float64{0.25, 0.5, 0.75} {
		for _, y := range []float64{0, minusNought} {
			for _, x := range []float64{-9, 9} {
				z := complex(x, y)
				back, e := chart.Back(power(1, 0, p), mustAt(t, power(1, 0, p), z), false)
				if e != api.OK || length(back-z) > 1e-12 {
					t.Errorf("z^%v of %v, and back: %v, %d", p, z, back, int(e))
				}
			}
		}
	}
}

func TestP18_3Powers(t *testing.T) {
	// A square's other one; other powers have none, also where both would be at B.
	wantNear(t, power(1, 0, 2), 4, false, 2)
	wantNear(t, power(1, 0, 2), 4, true, -2)
	wantNear(t, power(4i, 5, 2), 16i, false, 7)
	wantNear(t, power(4i, 5, 2), 16i, true, 3)
	for _, p := range []float64{0.25, 0.5, 1, 1.5, math.Nextafter(2, 1), math.Nextafter(2, 3), 3, 4} {
		for _, w := range []complex128{0, 4, -4, 1i, farthest} {
			wantBack(t, power(1, 0, p), w, true, 0, api.ErrBranch)
			wantBack(t, power(2, 3, p), w, true, 0, api.ErrBranch)
		}
	}
	// Nought comes to B, whatever the power, and whatever the signs.
	for _, o := range noughts {
		for _, a := range []complex128{1, 3i} {
			for _, p := range []float64{0.25, 0.5, 1, 1.5, 2, 3, 4} {
				wantBack(t, power(a, 2-1i, p), o, false, 2-1i, api.OK)
			}
			wantBack(t, power(a, 2-1i, 2), o, true, 2-1i, api.OK)
			wantBack(t, power(a, complex(minusNought, minusNought), 3), o, false, 0, api.OK)
			wantBack(t, power(a, complex(minusNought, minusNought), 2), o, true, complex(minusNought, minusNought), api.OK)
		}
		wantBack(t, power(1, complex(minusNought, minusNought), 1), o, false, add(complex(minusNought, minusNought), o), api.OK)
	}
	// A quotient that is too little for floats is nought, too.
	wantBack(t, power(farthest, 7, 0.5), complex(-least, 0), false, 7, api.OK)
	wantBack(t, power(farthest, 7, 3), complex(-least, 0), false, 7, api.OK)
	wantNothing(t, exp(farthest, 7), least, api.ErrBranch)
}

// Powers below 1 fold the plane to a wedge: just within its border something comes, just beyond it nothing.
func TestP18_3Wedges(t *testing.T) {
	for _, p := range []float64{0.25, 0.3, 0.5, 0.6, 0.75, 0.9} {
		told, refused := 0, 0
		border := p * math.Pi
		for _, sign := range []float64{1, -1} {
			for step := -40; step <= 40; step++ {
				turn := border + float64(step)*0x1p-52
				w := complex(math.Cos(turn), sign*math.Sin(turn))
				z, e := backSteps(power(1, 0, p), w, false)
				wantBack(t, power(1, 0, p), w, false, z, e)
				isWithin := math.Abs(angle.Of(imag(w), real(w))) <= p*half
				if isWithin != (e == api.OK) {
					t.Errorf("Back of z^%v from %x: %d", p, w, int(e))
				}
				if isWithin {
					told++
				} else {
					refused++
				}
			}
		}
		if told < 20 || refused < 20 {
			t.Errorf("%v: %d are told, %d are not", p, told, refused)
		}
	}
	for _, r := range []struct {
		p float64
		w complex128
		e api.Errno
	}{
		// The border itself still belongs to it.
		{0.5, 1i, api.OK}, {0.5, -1i, api.OK}, {0.25, 1 + 1i, api.OK}, {0.25, 1 - 1i, api.OK},
		{0.5, complex(-0x1p-50, 1), api.ErrBranch}, {0.5, complex(-0x1p-50, -1), api.ErrBranch},
		{0.5, complex(minusNought, 1), api.ErrBranch}, {0.5, complex(minusNought, -1), api.ErrBranch}, // their nought's minus makes a little more of the angle
		{0.5, complex(0x1p-50, -1), api.OK},
		{0.25, complex(1, 1+0x1p-50), api.ErrBranch}, {0.25, complex(1, -1-0x1p-50), api.ErrBranch},
		{0.5, -1, api.ErrBranch}, {0.25, 1i, api.ErrBranch}, {0.9, complex(-1, minusNought), api.ErrBranch},
		{math.Nextafter(1, 0), -1, api.ErrBranch}, {math.Nextafter(1, 0), complex(-1, minusNought), api.ErrBranch},
		{math.Nextafter(1, 0), complex(-1, 0x1p-40), api.OK},
		// From 1 on there is no border.
		{1, -1, api.OK}, {math.Nextafter(1, 2), -1, api.OK}, {1.5, complex(-1, minusNought), api.OK}, {2, -1, api.OK}, {4, -1, api.OK},
	} {
		if _, e := chart.Back(power(1, 0, r.p), r.w, false); e != r.e {
			t.Errorf("Back of z^%v from %v: %d, not %d", r.p, r.w, int(e), int(r.e))
		}
	}
	// The wedge is that of the quotient: A turns it.
	wantBack(t, power(-2, 0, 0.5), 2, false, 0, api.ErrBranch)
	wantNear(t, power(-2, 0, 0.5), -2, false, 1)
	wantNear(t, power(3i, 0, 0.25), -3+3i, false, -4)
	wantBack(t, power(3i, 0, 0.25), 3, false, 0, api.ErrBranch)
}

func TestP18_3Sheets(t *testing.T) {
	for _, r := range []struct{ b, w, z complex128 }{
		{1, 1, 0},
		{1, 2i, complex(math.Ln2, math.Pi/2)},
		{2, 4, math.Ln2},
		{1i, 4, -2i * math.Ln2},
		{-1, complex(-1, 0), complex(0, -math.Pi)},
	} {
		m := exp(1, r.b)
		wantNear(t, m, r.w, false, r.z)
		wantNear(t, m, r.w, true, r.z+2i*math.Pi/r.b)
		m.A = 2 + 1i
		wantNear(t, m, mul(m.A, r.w), false, r.z)
		wantNear(t, m, mul(m.A, r.w), true, r.z+2i*math.Pi/r.b)
	}
	wantBack(t, exp(1, 1), 1, true, complex(0, 2*half), api.OK)
	for _, o := range noughts {
		wantNothing(t, exp(1, 1), o, api.ErrBranch)
		wantNothing(t, exp(2i, 3), o, api.ErrBranch)
	}
	wantBack(t, exp(1, 1), least, false, powers.Log(least), api.OK)
}
