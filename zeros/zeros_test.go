package zeros_test

import (
	"math"
	"testing"

	"eddy/api"
	"eddy/poly"
	"eddy/zeros"
)

type list = []complex128

const (
	least    = 0x1p-1074
	greatest = math.MaxFloat64
	most     = 0x1p40 // the greatest worth of a part
	degrees  = 64     // the greatest degree
	maxSteps = 1 << 14
)

var (
	minusNought = math.Copysign(0, -1)
	infinite    = math.Inf(1)
	none        = math.NaN()
	beyond      = math.Nextafter(most, infinite)
	minusBoth   = complex(minusNought, minusNought)
	noughts     = list{0, complex(minusNought, 0), complex(0, minusNought), minusBoth}
	// noPlaces are no places, each by one part.
	noPlaces = list{complex(none, 0), complex(0, none), complex(infinite, 1), complex(1, -infinite), complex(beyond, 0), complex(0, -beyond), complex(none, none)}
)

// dice tells words, the same ones at each run.
type dice uint64

func newDice() *dice {
	d := dice(0x9e3779b97f4a7c15)
	return &d
}

func (d *dice) word() uint64 {
	x := *d
	x ^= x << 13
	x ^= x >> 7
	x ^= x << 17
	*d = x
	return uint64(x)
}

func (d *dice) below(n int) int { return int(d.word() % uint64(n)) }

// part is a float of either sign, from 2^-reach to below 2^reach in worth, at times a nought.
func (d *dice) part(reach int) float64 {
	sign := float64(int64(d.word()))
	if d.below(8) == 0 {
		return math.Copysign(0, sign)
	}
	x := math.Ldexp(1+float64(d.word()>>12)*0x1p-52, d.below(2*reach)-reach)
	return math.Copysign(x, sign)
}

func (d *dice) number(reach int) complex128 { return complex(d.part(reach), d.part(reach)) }

// whole has whole parts of at most so much in worth.
func (d *dice) whole(most int) complex128 {
	return complex(float64(d.below(2*most+1)-most), float64(d.below(2*most+1)-most))
}

// list is so many numbers; a last one that is nought is thrown again.
func (d *dice) list(n int, throw func() complex128) list {
	l := make(list, n)
	for i := range l {
		l[i] = throw()
	}
	for n > 1 && l[n-1] == 0 {
		l[n-1] = throw()
	}
	return l
}

// polynomial is of any degree up to the one that is told.
func (d *dice) polynomial(degree, reach int) list {
	return d.list(d.below(degree+1)+1, func() complex128 { return d.number(reach) })
}

// any is a polynomial as programs have them, or a strange one.
func (d *dice) any() list {
	switch d.below(6) {
	case 0:
		return d.list(d.below(7)+1, func() complex128 { return d.whole(8) })
	case 1:
		return d.polynomial(degrees, 3)
	case 2:
		return d.polynomial(3, 40)
	case 3:
		return d.polynomial(degrees/2, 12)
	}
	return d.polynomial(8, 10)
}

// places are as many as l's degree is; at times two are equal, or so near to each other that what they push by is infinite.
func (d *dice) places(l list, reach int) list {
	z := make(list, len(l)-1)
	for i := range z {
		z[i] = d.number(reach)
		switch j := d.below(i + 1); d.below(12) {
		case 0:
			z[i] = z[j]
		case 1:
			z[i] = complex(math.Nextafter(real(z[j]), 9), imag(z[j]))
		case 2:
			z[i] = complex(0, minusNought)
		case 3:
			z[i] = complex(least, 0)
		}
	}
	return z
}

func sameFloats(a, b float64) bool {
	return math.IsNaN(a) && math.IsNaN(b) || math.Float64bits(a) == math.Float64bits(b)
}

func same(a, b complex128) bool {
	return sameFloats(real(a), real(b)) && sameFloats(imag(a), imag(b))
}

func sameLists(a, b list) bool {
	if len(a) != len(b) {
		return false
	}
	for i := range a {
		if !same(a[i], b[i]) {
			return false
		}
	}
	return true
}

// filled is so many times a.
func filled(n int, a complex128) list {
	l := make(list, n)
	for i := range l {
		l[i] = a
	}
	return l
}

// ending has the degree n, a as its first coefficient and b as its last one, and noughts between.
func ending(n int, a, b complex128) list {
	l := make(list, n+1)
	l[0], l[n] = a, b
	return l
}

func wantBegin(t *testing.T, l, ought list, oughtE api.Errno) {
	t.Helper()
	if z, e := zeros.Begin(l); e != oughtE || !sameLists(z, ought) || e != api.OK && z != nil {
		t.Errorf("Begin(%x): %x, %d, not %x, %d", l, z, int(e), ought, int(oughtE))
	}
}

func wantRound(t *testing.T, l, z, ought list, oughtE api.Errno) {
	t.Helper()
	if y, e := zeros.Round(l, z); e != oughtE || !sameLists(y, ought) || e != api.OK && y != nil {
		t.Errorf("Round(%x, %x): %x, %d, not %x, %d", l, z, y, int(e), ought, int(oughtE))
	}
}

func wantAll(t *testing.T, l list, most int, ought list, oughtN int, oughtE api.Errno) {
	t.Helper()
	if z, n, e := zeros.All(l, most); e != oughtE || n != oughtN || !sameLists(z, ought) || e != api.OK && z != nil {
		t.Errorf("All(%x, %d): %x, %d, %d, not %x, %d, %d", l, most, z, n, int(e), ought, oughtN, int(oughtE))
	}
}

func wantPolish(t *testing.T, l list, z complex128, steps int, ought complex128, oughtE api.Errno) {
	t.Helper()
	if y, e := zeros.Polish(l, z, steps); e != oughtE || !same(y, ought) {
		t.Errorf("Polish(%x, %x, %d): %x, %d, not %x, %d", l, z, steps, y, int(e), ought, int(oughtE))
	}
}

func wantRadius(t *testing.T, l list, z complex128, ought float64, oughtE api.Errno) {
	t.Helper()
	if r, e := zeros.Radius(l, z); e != oughtE || !sameFloats(r, ought) {
		t.Errorf("Radius(%x, %x): %x, %d, not %x, %d", l, z, r, int(e), ought, int(oughtE))
	}
}

func wantSquare(t *testing.T, l list, oughtA, oughtB complex128, oughtE api.Errno) {
	t.Helper()
	if a, b, e := zeros.Square(l); e != oughtE || !same(a, oughtA) || !same(b, oughtB) {
		t.Errorf("Square(%x): %x, %x, %d, not %x, %x, %d", l, a, b, int(e), oughtA, oughtB, int(oughtE))
	}
}

// refused are polynomials that may not be.
func refused() []list {
	out := []list{nil, {}, {1, 0}, {1, 2, minusBoth}, {0, 0}, filled(degrees+2, 1)}
	for _, a := range noPlaces {
		out = append(out, list{a}, list{a, 1}, list{1, a}, list{1, a, 1})
	}
	return out
}

// Whatever else is wrong, or not, poly.Check's error comes first.
func TestPolynomialFirst(t *testing.T) {
	for _, l := range refused() {
		if poly.Check(l) != api.ErrPoly {
			t.Fatalf("%v may be", l)
		}
		wantBegin(t, l, nil, api.ErrPoly)
		wantSquare(t, l, 0, 0, api.ErrPoly)
		for _, z := range append(list{1}, noPlaces...) {
			wantRadius(t, l, z, 0, api.ErrPoly)
			wantRound(t, l, filled(max(len(l)-1, 0), z), nil, api.ErrPoly)
			wantRound(t, l, filled(7, z), nil, api.ErrPoly)
			for _, n := range []int{-1, 0, 1, maxSteps, maxSteps + 1} {
				wantPolish(t, l, z, n, 0, api.ErrPoly)
				wantAll(t, l, n, nil, 0, api.ErrPoly)
			}
		}
	}
}

func TestP9_1Refused(t *testing.T) {
	for _, z := range noughts {
		wantBegin(t, list{z}, nil, api.ErrPlace)
	}
	wantBegin(t, list{most, least}, nil, api.ErrPlace) // Bound is not finite
	wantBegin(t, list{complex(0, most), 1, complex(0, least)}, nil, api.ErrPlace)
	wantBegin(t, list{most, 1}, nil, api.ErrPlace)
	wantBegin(t, list{1, 0x1p-41}, nil, api.ErrPlace)
}

// The first coefficient that is told makes Bound just 2^40, its neighbour makes it more.
func TestP9_1JustAtMaxReal(t *testing.T) {
	c := 0x1p40 - 1 - 3*0x1p-13
	for n := 1; n <= degrees; n += 9 {
		l := ending(n, complex(0, -c), 1)
		if b, e := poly.Bound(l); b != most || e != api.OK {
			t.Fatalf("Bound is %x, %d", b, int(e))
		}
		wantBegin(t, l, beginSteps(l), api.OK)
		l[0] = complex(0, -math.Nextafter(c, most))
		if b, e := poly.Bound(l); b != beyond || e != api.OK {
			t.Fatalf("Bound is %x, %d", b, int(e))
		}
		wantBegin(t, l, nil, api.ErrPlace)
		wantAll(t, l, 9, nil, 0, api.ErrPlace)
	}
}

func TestP9_1DegreeNought(t *testing.T) {
	for _, a := range []complex128{5, -1i, complex(most, -most), least} {
		wantBegin(t, list{a}, list{}, api.OK)
	}
}

// Round the circle to the left, each as far from the next one.
func TestP9_1Circle(t *testing.T) {
	d := newDice()
	for n := 1; n <= degrees; n++ {
		l := ending(n, d.whole(9), 1)
		z, e := zeros.Begin(l)
		b, _ := poly.Bound(l)
		if e != api.OK || len(z) != n {
			t.Fatalf("Begin(%v): %v, %d", l, z, int(e))
		}
		for k := range z {
			sin, cos := math.Sincos(math.Pi * (float64(2*k) + 0.5) / float64(n))
			if off := math.Hypot(real(z[k])-cos*b/2, imag(z[k])-sin*b/2); off > b*0x1p-48 {
				t.Errorf("Begin(%v): number %d is %v, off by %g", l, k, z[k], off)
			}
		}
	}
}

func TestP9_2HowMany(t *testing.T) {
	for n := 0; n <= degrees; n++ {
		l := ending(n, 1, 1)
		for _, count := range []int{0, n - 1, n + 1, 2 * n, degrees + 1, 5000} {
			if count >= 0 && count != n {
				wantRound(t, l, filled(count, 1), nil, api.ErrMany)
				wantRound(t, l, filled(count, complex(none, 0)), nil, api.ErrMany) // ahead of what stands there
			}
		}
		if z, e := zeros.Round(l, filled(n, 1)); e != api.OK || len(z) != n {
			t.Errorf("Round of %d places: %v, %d", n, z, int(e))
		}
	}
	for _, a := range append(list{7}, noughts...) {
		wantRound(t, list{a}, nil, list{}, api.OK)
		wantRound(t, list{a}, list{}, list{}, api.OK)
		wantRound(t, list{a}, list{1}, nil, api.ErrMany)
	}
}

func TestP9_2NoPlace(t *testing.T) {
	l := list{-1, 2, 0, 1}
	for _, a := range noPlaces {
		for k := range 3 {
			z := list{1, 2, 3}
			z[k] = a
			wantRound(t, l, z, nil, api.ErrReal)
		}
	}
	far := list{complex(most, -most), complex(-most, most), most}
	wantRound(t, l, far, roundSteps(l, far), api.OK)
}

// Two equal places: neither pushes the other. The first one goes, and then what it pushes by makes 1 - w * a nought: so the second one stays.
func TestP9_2EqualPlaces(t *testing.T) {
	wantRound(t, list{-1, 0, 1}, list{2, 2}, list{1.25, 2}, api.OK)
	wantRound(t, list{-1, 0, 1}, list{complex(2, minusNought), 2}, list{complex(1.25, minusNought), 2}, api.OK)
	wantRound(t, list{-8, 0, 0, 1}, list{1, 1, 1}, roundSteps(list{-8, 0, 0, 1}, list{1, 1, 1}), api.OK)
}

// What is a zero stays, with its noughts' signs.
func TestP9_2Zeros(t *testing.T) {
	wantRound(t, list{-1, 0, 1}, list{1, -1}, list{1, -1}, api.OK)
	wantRound(t, list{-1, 0, 1}, list{1, 1}, list{1, 1}, api.OK)
	for _, z := range noughts {
		wantRound(t, list{0, 1}, list{z}, list{z}, api.OK)
		wantRound(t, list{0, 1, 1}, list{-1, z}, list{-1, z}, api.OK)
	}
	one := complex(-1, minusNought)
	wantRound(t, list{1, 2, 1}, list{one, one}, list{one, one}, api.OK)
	// One stays, the other one goes, pushed by it: to the other zero outright.
	wantRound(t, list{-1, 0, 1}, list{1, 2}, list{1, -1}, api.OK)
	wantRound(t, list{-1, 0, 1}, list{2, 1}, list{-1, 1}, api.OK)
}

func TestP9_2BothRefused(t *testing.T) {
	l := ending(30, -1, 1)
	z := filled(30, 2)
	for k := range z {
		z[k] = complex(float64(k), 1)
	}
	z[4] = most
	if _, _, e := poly.Both(l, most); e != api.ErrPlace {
		t.Fatalf("Both is %d", int(e))
	}
	y, e := zeros.Round(l, z)
	if e != api.OK || y[4] != most || y[3] == z[3] || y[5] == z[5] {
		t.Errorf("Round beyond all values: %v, %d", y, int(e))
	}
	wantRound(t, l, z, roundSteps(l, z), api.OK)
	far := filled(30, complex(0, -most))
	wantRound(t, l, far, far, api.OK)
}

func TestP9_2NotFinite(t *testing.T) {
	for _, z := range noughts { // the slope is nought, the value is not
		wantRound(t, list{-1, 0, 1}, list{z, 5}, roundSteps(list{-1, 0, 1}, list{z, 5}), api.OK)
		if y, _ := zeros.Round(list{-1, 0, 1}, list{z, 5}); !same(y[0], z) || y[1] == 5 {
			t.Errorf("Round from %x, where the slope is nought: %x", z, y)
		}
	}
	wantRound(t, list{1, least}, list{3}, list{3}, api.OK) // 1 over the least float is infinite
	wantRound(t, list{most, 0x1p-1000}, list{3}, list{3}, api.OK)
}

// A step to just 2^40 goes, one just beyond it does not.
func TestP9_2NoWayOut(t *testing.T) {
	under := math.Nextafter(1, 0)
	wantRound(t, list{most, 1}, list{0}, list{-most}, api.OK)
	wantRound(t, list{most, complex(under, 0)}, list{0}, list{0}, api.OK)
	wantRound(t, list{most, 0 - 1i}, list{0}, list{complex(0, -most)}, api.OK)
	wantRound(t, list{most, complex(0, under)}, list{0}, list{0}, api.OK)
	wantRound(t, list{complex(0, most), 0x1p-10}, list{7}, list{7}, api.OK)
	wantRound(t, list{-1, 0, 1}, list{0x1p-42, 0x1p-42}, list{0x1p-42, 0x1p-42}, api.OK)
	wantRound(t, list{-1, 0, 1}, list{0x1p-41, 0x1p-41}, list{most, 0x1p-41}, api.OK)
}

// Each step sees the places ahead where they have gone: it is that of a list in which they stand there.
func TestP9_2AheadHaveGone(t *testing.T) {
	d := newDice()
	differs := 0
	for range 3000 {
		l := d.list(3+d.below(6), func() complex128 { return d.number(2) })
		z := d.places(l, 2)
		y, e := zeros.Round(l, z)
		if e != api.OK {
			t.Fatal(int(e))
		}
		for k := range z {
			half := append(append(list{}, y[:k]...), z[k:]...)
			if !same(y[k], stepOf(l, half, k)) {
				t.Errorf("Round(%x, %x): number %d is %x", l, z, k, y[k])
			}
			if !same(y[k], stepOf(l, z, k)) {
				differs++
			}
		}
	}
	if differs < 3000 {
		t.Errorf("only %d steps can tell", differs)
	}
}

func TestP9_3Most(t *testing.T) {
	l := list{-6, 1, 1}
	for _, n := range []int{0, -1, math.MinInt, maxSteps + 1, math.MaxInt} {
		wantAll(t, l, n, nil, 0, api.ErrArg)
		wantAll(t, list{5}, n, nil, 0, api.ErrArg)
		wantAll(t, list{0}, n, nil, 0, api.ErrArg) // ahead of Begin's
		wantAll(t, list{most, least}, n, nil, 0, api.ErrArg)
	}
	z, n, e := zeros.All(l, maxSteps)
	if e != api.OK || n < 2 {
		t.Fatal(z, n, int(e))
	}
	wantAll(t, l, n, z, n, api.OK)
	wantAll(t, l, n+1, z, n, api.OK)
	wantAll(t, l, n-1, nil, 0, api.ErrSteps)
	wantAll(t, l, 1, nil, 0, api.ErrSteps)
}

func TestP9_3BeginRefused(t *testing.T) {
	for _, n := range []int{1, maxSteps} {
		for _, z := range noughts {
			wantAll(t, list{z}, n, nil, 0, api.ErrPlace)
		}
		wantAll(t, list{most, least}, n, nil, 0, api.ErrPlace)
		wantAll(t, list{most, 1}, n, nil, 0, api.ErrPlace)
		wantAll(t, list{5}, n, list{}, 0, api.OK)
		wantAll(t, list{complex(0, least)}, n, list{}, 0, api.OK)
	}
}

// So far out no value is finite: all stay, which one round shows.
func TestP9_3OneRound(t *testing.T) {
	l := ending(degrees, 0x1p39, 1)
	z, e := zeros.Begin(l)
	if y, f := zeros.Round(l, z); e != api.OK || f != api.OK || !sameLists(y, z) {
		t.Fatal("they go")
	}
	wantAll(t, l, 1, inRow(z), 1, api.OK)
	wantAll(t, l, maxSteps, inRow(z), 1, api.OK)
}

// The second round goes by just 2^-48 of the length that the new place has: that will do; or of the length that the old one had: that will not.
func TestP9_3JustSettled(t *testing.T) {
	l := list{0.4375 - 0.1875i, -7 + 3i}
	z := checkSecond(t, l, 0x1p-48*0x1p-4)
	wantAll(t, l, 2, z, 2, api.OK)
	wantAll(t, l, 9, z, 2, api.OK)
	root := 0x1p-6 * (1 - 0x1p-48)
	l = list{complex(-27*root, -16*root), 27 + 16i}
	z = checkSecond(t, l, 0x1p-48*0x1p-6)
	wantAll(t, l, 2, nil, 0, api.ErrSteps)
	wantAll(t, l, 3, z, 3, api.OK)
}

// checkSecond tells the place behind two rounds; the second one must go so far.
func checkSecond(t *testing.T, l list, far float64) list {
	t.Helper()
	z, _ := zeros.Begin(l)
	z, _ = zeros.Round(l, z)
	y, e := zeros.Round(l, z)
	if e != api.OK || math.Hypot(real(y[0])-real(z[0]), imag(y[0])-imag(z[0])) != far {
		t.Fatalf("from %x to %x, %d", z, y, int(e))
	}
	return y
}

// Here places go to and fro for ever.
func TestP9_3NeverSettled(t *testing.T) {
	l, e := poly.Of(list{1, 2, 3, 4, 5, 6, 7, 8, 9, 10})
	if e != api.OK {
		t.Fatal(int(e))
	}
	wantAll(t, l, 1, nil, 0, api.ErrSteps)
	wantAll(t, l, 3000, nil, 0, api.ErrSteps)
	wantAll(t, l, maxSteps, nil, 0, api.ErrSteps)
}

// By Begin and Round after Round, by the calls themselves.
func TestP9_3RoundAfterRound(t *testing.T) {
	d := newDice()
	for range 400 {
		l := d.list(2+d.below(9), func() complex128 { return d.number(3) })
		z, e := zeros.Begin(l)
		if e != api.OK {
			t.Fatal(int(e))
		}
		rounds := 0
		for settled := false; !settled && rounds < 60; rounds++ {
			y, e := zeros.Round(l, z)
			if e != api.OK {
				t.Fatal(int(e))
			}
			settled = areSettled(y, z)
			if z = y; settled {
				wantAll(t, l, 60, inRow(z), rounds+1, api.OK)
				wantAll(t, l, rounds+1, inRow(z), rounds+1, api.OK)
			}
			if !settled {
				wantAll(t, l, rounds+1, nil, 0, api.ErrSteps)
			}
		}
	}
}

func TestP9_3MaxDegree(t *testing.T) {
	l := ending(degrees, -1, 1)
	z, n, e := zeros.All(l, 100)
	if e != api.OK || len(z) != degrees || n < 2 {
		t.Fatalf("All(z^64 - 1): %v, %d, %d", z, n, int(e))
	}
	ought := make(list, degrees)
	for k := range ought {
		sin, cos := math.Sincos(2 * math.Pi * float64(k) / degrees)
		ought[k] = complex(cos, sin)
	}
	for i := range z {
		if i > 0 && !isAhead(z[i-1], z[i]) {
			t.Errorf("%v stands ahead of %v", z[i-1], z[i])
		}
		if _, far := nearest(ought, z[i]); far > 0x1p-44 {
			t.Errorf("%v is no root of 1: off by %g", z[i], far)
		}
		if _, far := nearest(z, ought[i]); far > 0x1p-44 {
			t.Errorf("%v is none of the zeros: off by %g", ought[i], far)
		}
	}
}

// isAhead tells whether a stands ahead of b in a row, or at one place with it; both are numbers.
func isAhead(a, b complex128) bool {
	return real(a) < real(b) || real(a) == real(b) && imag(a) <= imag(b)
}

// nearest is the one of l that is nearest to z, and how far it is.
func nearest(l list, z complex128) (which int, far float64) {
	far = infinite
	for i, a := range l {
		if off := math.Hypot(real(a)-real(z), imag(a)-imag(z)); off < far {
			which, far = i, off
		}
	}
	return which, far
}

func TestP9_4Errors(t *testing.T) {
	l := list{-2, 0, 1}
	for _, n := range []int{-1, math.MinInt, maxSteps + 1, math.MaxInt} {
		wantPolish(t, l, 1, n, 0, api.ErrArg)
		for _, z := range noPlaces { // the place ahead of the steps
			wantPolish(t, l, z, n, 0, api.ErrReal)
		}
	}
	for _, z := range noPlaces {
		for _, n := range []int{0, 1, maxSteps} {
			wantPolish(t, l, z, n, 0, api.ErrReal)
			wantPolish(t, list{0}, z, n, 0, api.ErrReal)
		}
	}
}

func TestP9_4Steps(t *testing.T) {
	l := list{-2, 0, 1}
	wantPolish(t, l, 1, 0, 1, api.OK)
	wantPolish(t, l, 1, 1, 1.5, api.OK)
	wantPolish(t, l, 1, 2, 1.5-0.25/3, api.OK)
	for _, z := range append(list{complex(-most, most), complex(3, minusNought)}, noughts...) {
		wantPolish(t, list{1, 2, 3}, z, 0, z, api.OK) // no step: z, noughts' signs and all
	}
	z, e := zeros.Polish(l, 1, maxSteps)
	if e != api.OK || math.Abs(real(z)-math.Sqrt2) > 0x1p-51 || imag(z) != 0 {
		t.Errorf("Polish by MaxSteps: %x, %d", z, int(e))
	}
	// A multiple zero is come to slowly: each step counts.
	slow := list{-1, 3, -3, 1}
	last := 9.0
	for n := range 28 {
		z, e := zeros.Polish(slow, 10, n)
		if e != api.OK || !(real(z)-1 <= last && real(z)-1 > last*0.6) {
			t.Errorf("Polish to a threefold zero, step %d: %v, %d", n, z, int(e))
		}
		last = real(z) - 1
	}
}

// It stands still, and stays there.
func TestP9_4Stays(t *testing.T) {
	under := math.Nextafter(1, 0)
	for _, n := range []int{1, 2, 9, maxSteps} {
		for _, z := range noughts {
			wantPolish(t, list{-2, 0, 1}, z, n, z, api.OK)                          // no slope
			wantPolish(t, list{0, 5}, z, n, z, api.OK)                              // a zero
			wantPolish(t, list{z}, 3, n, 3, api.OK)                                 // the nought polynomial
			wantPolish(t, list{most, complex(under, real(z))}, z, n, z, api.OK)     // no place
			wantPolish(t, list{most, complex(imag(z), 0x1p-1000)}, z, n, z, api.OK) // not finite
		}
		wantPolish(t, list{7}, 3-1i, n, 3-1i, api.OK)                       // no slope, ever
		wantPolish(t, ending(degrees, 1, 1), most, n, most, api.OK)         // Both is refused
		wantPolish(t, ending(degrees, 1, 1), -most*1i, n, -most*1i, api.OK) // likewise
		wantPolish(t, list{most, 1}, 0, n, -most, api.OK)                   // just a place
		wantPolish(t, list{-6, 1, 1}, 2, n, 2, api.OK)                      // a zero
	}
	// First it goes: to 0, where there is no slope; to where the next step leads beyond all places; to a zero.
	for _, n := range []int{1, 2, 3, maxSteps} {
		wantPolish(t, list{1, 0, 1}, 1, n, 0, api.OK)
		wantPolish(t, list{1 - 0x1p-41, 0, 1}, 1, n, 0x1p-42, api.OK)
		wantPolish(t, list{-6, 1}, 1, n, 6, api.OK)
	}
}

// What goes to and fro tells each step: of z^3 - 2 z + 2 from 1 to 0, and back.
func TestP9_4ToAndFro(t *testing.T) {
	l := list{2, -2, 0, 1}
	for _, n := range []int{0, 1, 2, 3, 100, 101, maxSteps - 1, maxSteps} {
		wantPolish(t, l, 1, n, complex(float64(1-n%2), 0), api.OK)
	}
}

func TestP9_6Degrees(t *testing.T) {
	for n := range degrees + 1 {
		l := ending(n, 1, 1)
		if _, _, e := zeros.Square(l); (e == api.OK) != (n == 2) || n != 2 && e != api.ErrPoly {
			t.Errorf("Square of the degree %d: %d", n, int(e))
		}
	}
	wantSquare(t, list{0}, 0, 0, api.ErrPoly)
}

// wantZeros passes over the signs of noughts.
func wantZeros(t *testing.T, l list, oughtA, oughtB complex128) {
	t.Helper()
	if a, b, e := zeros.Square(l); a != oughtA || b != oughtB || e != api.OK {
		t.Errorf("Square(%v): %v, %v, %d, not %v, %v", l, a, b, int(e), oughtA, oughtB)
	}
}

func TestP9_6Zeros(t *testing.T) {
	wantZeros(t, list{1, -2, 1}, 1, 1)       // a double one
	wantZeros(t, list{-4, 4i, 1}, -2i, -2i)  // likewise
	wantZeros(t, list{2, -3, 1}, 1, 2)       // the root's sign is turned
	wantZeros(t, list{2, 3, 1}, -2, -1)      // it is not
	wantZeros(t, list{-6, 1, 1}, -3, 2)      // it is not
	wantZeros(t, list{-6, -1, 1}, -2, 3)     // it is
	wantZeros(t, list{12, -14, 4}, 1.5, 2)   // it is
	wantZeros(t, list{-2, -3i, 1}, 1i, 2i)   // the imaginary parts alone turn it
	wantZeros(t, list{-2, 3i, 1}, -2i, -1i)  // or do not
	wantZeros(t, list{-4, 0, 1}, -2, 2)      // nothing to tell it by
	wantZeros(t, list{0, -5, 1}, 0, 5)       // c is nought
	wantZeros(t, list{0, 5, 1}, -5, 0)       // likewise
	wantZeros(t, list{-1, 2, 3}, -1, 1.0/3)  // rounded once
	wantZeros(t, list{5, -2, 1}, 1-2i, 1+2i) // of like real parts by the imaginary ones
	// The small zero is not lost beside the great one.
	wantZeros(t, list{1, 0x1p39, 1}, -0x1p39, -0x1p-39)
	wantZeros(t, list{1, -0x1p39, 1}, 0x1p-39, 0x1p39)
	wantZeros(t, list{1, -0x1p39i, -1}, -0x1p39i, -0x1p-39i)
}

// Alike ones stay as they come up: that over a ahead of that under c.
func TestP9_6Alike(t *testing.T) {
	wantSquare(t, list{1i, 2i, 1i}, -1, complex(-1, minusNought), api.OK)
	wantSquare(t, list{complex(minusNought, -1), 2, 1i}, complex(minusNought, 1), 1i, api.OK)
}

func TestP9_6NoughtQ(t *testing.T) {
	for _, c := range noughts {
		for _, b := range noughts {
			for _, a := range []complex128{1, -1, 3i, complex(-most, most), least} {
				wantSquare(t, list{c, b, a}, 0, 0, api.OK)
			}
		}
	}
	wantSquare(t, list{0, least, 1}, 0, 0, api.OK)           // half of the least float is nought
	wantSquare(t, list{0x1p-600, 0, 0x1p-600}, 0, 0, api.OK) // so is the product
	wantZeros(t, list{0, complex(0, 2*least), 1}, complex(0, -least), 0)
}

func TestP9_6Overflow(t *testing.T) {
	wantSquare(t, list{1, most, least}, 0, 0, api.ErrPlace)
	wantSquare(t, list{1, complex(0, most), complex(0, least)}, 0, 0, api.ErrPlace)
	wantSquare(t, list{0x1p-40, 0x1p-1070, least}, 0, 0, api.ErrPlace) // the one under c alone
	wantZeros(t, list{0, 1, 0x1p-1023}, -0x1p1023, 0)
	wantSquare(t, list{0, 1, 0x1p-1024}, 0, 0, api.ErrPlace)
	// What is finite is told, though it is no place.
	wantZeros(t, list{0, most, 0x1p-100}, -0x1p140, 0)
}
