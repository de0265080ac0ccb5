package zeros_test

import (
	"math"
	"math/big"
	"testing"

	"eddy/api"
	"eddy/gauss"
	"eddy/poly"
	"eddy/zeros"
)

// So many bits hold every number of these tests; what is not exact all the same panics.
const bits = 1 << 19

func exact(x float64) *big.Float { return new(big.Float).SetPrec(bits).SetFloat64(x) }

func sure(a *big.Float) *big.Float {
	if a.Acc() != big.Exact {
		panic("bits are lost")
	}
	return a
}

func sum(a, b *big.Float) *big.Float        { return sure(new(big.Float).SetPrec(bits).Add(a, b)) }
func difference(a, b *big.Float) *big.Float { return sure(new(big.Float).SetPrec(bits).Sub(a, b)) }
func product(a, b *big.Float) *big.Float    { return sure(new(big.Float).SetPrec(bits).Mul(a, b)) }

// place is a complex number, exactly.
type place struct{ x, y *big.Float }

func placeOf(a complex128) place { return place{exact(real(a)), exact(imag(a))} }

func (a place) plus(b place) place { return place{sum(a.x, b.x), sum(a.y, b.y)} }

func (a place) minus(b place) place { return place{difference(a.x, b.x), difference(a.y, b.y)} }

func (a place) times(b place) place {
	return place{
		difference(product(a.x, b.x), product(a.y, b.y)),
		sum(product(a.x, b.y), product(a.y, b.x)),
	}
}

// square is the square of a's length.
func (a place) square() *big.Float { return sum(product(a.x, a.x), product(a.y, a.y)) }

// squares are n * n times the square of the value's length, and that of the slope's: term by term, not by Horner's steps.
func squares(l list, z complex128) (need, give *big.Float) {
	value, slope := placeOf(0), placeOf(0)
	power, last := placeOf(1), placeOf(0)
	for i, c := range l {
		value = value.plus(placeOf(c).times(power))
		slope = slope.plus(placeOf(c).times(last).times(placeOf(complex(float64(i), 0))))
		power, last = power.times(placeOf(z)), power
	}
	n := exact(float64(len(l) - 1))
	return product(product(n, n), value.square()), slope.square()
}

// reaches tells whether r's square times give is at least need.
func reaches(r float64, need, give *big.Float) bool {
	return product(product(exact(r), exact(r)), give).Cmp(need) >= 0
}

// checkRadius holds Radius against exact numbers.
func checkRadius(t *testing.T, l list, z complex128) (float64, api.Errno) {
	t.Helper()
	r, e := zeros.Radius(l, z)
	need, give := squares(l, z)
	switch {
	case need.Sign() == 0:
		wantRadius(t, l, z, 0, api.OK)
	case give.Sign() == 0 || !reaches(greatest, need, give):
		wantRadius(t, l, z, 0, api.ErrPlace)
	case e != api.OK || !(r > 0) || !reaches(r, need, give):
		t.Errorf("Radius(%x, %x): %x, %d is too small", l, z, r, int(e))
	case reaches(math.Nextafter(r, 0), need, give):
		t.Errorf("Radius(%x, %x): %x is not the least float", l, z, r)
	}
	return r, e
}

func TestP9_5Errors(t *testing.T) {
	for _, z := range noPlaces {
		for _, l := range []list{{-2, 0, 1}, {3}, {0}, {0, 1}} { // ahead of the degree
			wantRadius(t, l, z, 0, api.ErrReal)
		}
	}
	for _, a := range append(list{3, complex(0, least)}, noughts...) { // the degree ahead of the value, which may be nought
		for _, z := range []complex128{0, 1, complex(most, -most)} {
			wantRadius(t, list{a}, z, 0, api.ErrPlace)
		}
	}
}

func TestP9_5AtZeros(t *testing.T) {
	wantRadius(t, list{-4, 0, 1}, 2, 0, api.OK)
	wantRadius(t, list{-4, 0, 1}, -2, 0, api.OK)
	wantRadius(t, list{-0.1, 1}, 0.1, 0, api.OK)
	wantRadius(t, list{-0.1i, 1}, 0.1i, 0, api.OK)
	wantRadius(t, list{1, 0, 1}, -1i, 0, api.OK)
	wantRadius(t, list{-least, 1}, least, 0, api.OK)
	wantRadius(t, list{-most, 1}, most, 0, api.OK)
	for _, z := range noughts { // a zero, though the slope is nought too
		wantRadius(t, list{z, 0, 1}, 0, 0, api.OK)
		wantRadius(t, list{0, z, 1}, z, 0, api.OK)
		wantRadius(t, list{0, 1}, z, 0, api.OK)
		wantRadius(t, ending(degrees, z, -1), z, 0, api.OK)
	}
	wantRadius(t, list{1, -2, 1}, 1, 0, api.OK)
}

// Floats tell a zero where there is none, and none where there is one.
func TestP9_5ZerosOfFloatsAlone(t *testing.T) {
	tenth := 0.1
	l := list{complex(-(tenth * tenth), 0), 0, 1}
	if v, _ := poly.At(l, 0.1); v != 0 {
		t.Fatalf("the value is %v", v)
	}
	if r, e := checkRadius(t, l, 0.1); !(r > 0 && r < 1e-15) || e != api.OK {
		t.Errorf("Radius next to a zero: %x, %d", r, int(e))
	}
	l = ending(degrees, 0, 1)
	if v, _ := poly.At(l, 0x1p-100); v != 0 {
		t.Fatalf("the value is %v", v)
	}
	wantRadius(t, l, 0x1p-100, 0x1p-100, api.OK)
	wantRadius(t, l, complex(0, least), least, api.OK)
	wantRadius(t, l, complex(3*least, 4*least), 5*least, api.OK)
	// 3e - 1/4 - e - 3/4 - 2e + 1 is nought, but floats round on the way.
	const e = 0x1p-54
	l = list{-0.75 - 2*e, -0.25 - e, 1, 3 * e}
	if v, _ := poly.At(l, 1); v == 0 {
		t.Fatalf("the value is %v", v)
	}
	wantRadius(t, l, 1, 0, api.OK)
}

func TestP9_5NoSlope(t *testing.T) {
	for _, z := range noughts {
		wantRadius(t, list{-2, 0, 1}, z, 0, api.ErrPlace)
		wantRadius(t, list{-2, z, 1}, 0, 0, api.ErrPlace)
		wantRadius(t, ending(degrees, 1i, 1), z, 0, api.ErrPlace)
	}
	wantRadius(t, list{1, -1, 1}, 0.5, 0, api.ErrPlace)
	wantRadius(t, list{1, complex(-2*0.1, 0), 1}, 0.1, 0, api.ErrPlace)
	wantRadius(t, list{0, 3, 0, 1}, 1i, 0, api.ErrPlace)
	wantRadius(t, list{0, complex(2*least, 0), complex(-1, 0)}, complex(least, 0), 0, api.ErrPlace)
	// Floats tell no slope where there is one.
	if _, s, _ := poly.Both(list{1, 0, 0, 1}, 0x1p-600); s != 0 {
		t.Fatal("there is a slope in floats")
	}
	wantRadius(t, list{1, 0, 0, 1}, 0x1p-600, 0, api.ErrPlace) // 3 over 3 * 2^-1200
	wantRadius(t, list{0x1p-600, 0, 0, 1}, 0x1p-600, math.Nextafter(0x1p600, infinite), api.OK)
}

// Met exactly, and just not: the least float below all others of the place, or of the coefficient, tips it.
func TestP9_5Squares(t *testing.T) {
	wantRadius(t, list{0, 1}, 3+4i, 5, api.OK)
	wantRadius(t, list{-1, 0, 1}, 2, 1.5, api.OK)
	wantRadius(t, list{-2, 0, 1}, 1, 1, api.OK)
	wantRadius(t, list{least, 1}, 3+4i, math.Nextafter(5, 9), api.OK)
	wantRadius(t, list{-least, 1}, 3+4i, 5, api.OK)
	wantRadius(t, list{complex(0, least), 1}, 3+4i, math.Nextafter(5, 9), api.OK)
	wantRadius(t, list{complex(0, -least), 1}, 3+4i, 5, api.OK)
	wantRadius(t, list{0, 1}, complex(5, least), math.Nextafter(5, 9), api.OK)
	wantRadius(t, list{0, complex(1, least)}, 5, 5, api.OK)
	wantRadius(t, list{0, complex(3, 4)}, complex(-12, 5), 13, api.OK)
	wantRadius(t, list{5, complex(3, 4), least}, 0, 2, api.OK)
	for _, r := range []struct {
		z    complex128
		near float64
		up   bool // the nearest float is below the root: the next one is told
	}{
		{1 + 1i, 0x1.6a09e667f3bcdp+0, false},
		{2 + 1i, 0x1.1e3779b97f4a8p+1, false},
		{3 + 2i, 0x1.cd82b446159f3p+1, true},
		{5 - 1i, 0x1.465655f122ff6p+2, true},
		{-7 + 1i, 0x1.c48c6001f0acp+2, false},
		{-7 - 2i, 0x1.d1ed52076fbe9p+2, true},
	} {
		ought := r.near
		if r.up {
			ought = math.Nextafter(ought, 9)
		}
		wantRadius(t, list{0, 1}, r.z, ought, api.OK)
		wantRadius(t, list{0, 3}, r.z, ought, api.OK)
		wantRadius(t, list{0, 0x1p40i}, r.z*0x1p-40, ought*0x1p-40, api.OK)
	}
}

func TestP9_5Farthest(t *testing.T) {
	wantRadius(t, list{most, least}, 0, 0, api.ErrPlace)
	full := complex(0x1.fffffffffffffp39, 0) // over 2^-984 that is just the greatest float
	wantRadius(t, list{full, 0x1p-984}, 0, greatest, api.OK)
	wantRadius(t, list{full, 0x1p-984i}, 0, greatest, api.OK)
	wantRadius(t, list{full + complex(0, least), 0x1p-984}, 0, 0, api.ErrPlace)
	wantRadius(t, list{full, complex(0x1p-984, least)}, 0, greatest, api.OK)
	wantRadius(t, list{full, complex(math.Nextafter(0x1p-984, 0), 0)}, 0, 0, api.ErrPlace)
	wantRadius(t, list{complex(math.Nextafter(real(full), 0), least), 0x1p-984}, 0, greatest, api.OK)
	wantRadius(t, list{full / 2, 0x1p-984, 1}, 0, greatest, api.OK) // twice, of the degree 2
	wantRadius(t, list{full, 0x1p-984, 1}, 0, 0, api.ErrPlace)
	wantRadius(t, list{1, 0x1p-1024}, 0, 0, api.ErrPlace)
	wantRadius(t, list{1, 0x1p-1023}, 0, 0x1p1023, api.OK)
}

func TestP9_5Least(t *testing.T) {
	wantRadius(t, list{least, 1}, 0, least, api.OK)
	wantRadius(t, list{least, most}, 0, least, api.OK) // less than the least float, but not nought
	wantRadius(t, list{3 * least, 2}, 0, 2*least, api.OK)
	wantRadius(t, list{3 * least, 1}, 0, 3*least, api.OK)
	wantRadius(t, list{3 * least, 3i}, 0, least, api.OK)
	wantRadius(t, list{4 * least, 3}, 0, 2*least, api.OK)
	wantRadius(t, list{complex(3*least, -4*least), 1}, 0, 5*least, api.OK)
	wantRadius(t, list{complex(least, least), 1}, 0, 2*least, api.OK)
	wantRadius(t, list{0x1p-1022, 1}, 0, 0x1p-1022, api.OK)
	wantRadius(t, list{0x1p-1022 - least, 1}, 0, 0x1p-1022-least, api.OK)
	wantRadius(t, list{0x1p-1022, complex(1, least)}, 0, 0x1p-1022, api.OK)
	wantRadius(t, list{complex(0x1p-1022, least), 1}, 0, 0x1p-1022+least, api.OK)
	wantRadius(t, ending(degrees, 0, 1), complex(0, -least), least, api.OK)
	wantRadius(t, list{0, complex(0, most), 0, 0, most}, least, 4*least, api.OK) // four times, of the degree 4
}

func TestP9_5Exactly(t *testing.T) {
	d := newDice()
	told := 0
	for i := range 1500 {
		l := d.any()
		if len(l) == 1 || len(l) > 30 && i%8 != 0 {
			continue
		}
		if _, e := checkRadius(t, l, d.number(1+i%20)); e == api.OK {
			told++
		}
		z, _ := zeros.Polish(l, d.number(2), 60) // next to a zero, where nearly all cancels
		checkRadius(t, l, z)
	}
	if told < 700 {
		t.Errorf("only %d are told", told)
	}
}

// anywhere is a float from the least one to 2^40 in worth, or a nought.
func (d *dice) anywhere() float64 {
	x := math.Ldexp(1+float64(d.word()>>12)*0x1p-52, d.below(1074+40)-1074)
	return math.Copysign(x, float64(int64(d.word())))
}

func (d *dice) anyPlace() complex128 { return complex(d.anywhere(), d.anywhere()) }

func TestP9_5FarApart(t *testing.T) {
	d := newDice()
	counts := map[api.Errno]int{}
	for i := range 400 {
		l := d.list(2+d.below(6), d.anyPlace)
		if i%4 == 0 {
			l = list{d.number(39), complex(float64(d.below(1000))*least, float64(d.below(1000)+1)*least)}
		}
		_, e := checkRadius(t, l, d.anyPlace())
		counts[e]++
	}
	if counts[api.OK] < 300 || counts[api.ErrPlace] < 20 || len(counts) != 2 {
		t.Errorf("answers: %v", counts)
	}
}

// More digits than gauss may tell.
func TestP9_5ManyDigits(t *testing.T) {
	d := newDice()
	for _, z := range []complex128{complex(most, least), complex(least, -0x1.fffffffffffffp39), complex(0.1, 0x1.8p-1070), complex(0x1.123456789abcdp-1022, 1), d.anyPlace()} {
		l := d.list(degrees+1, d.anyPlace)
		if _, e := gauss.At(l, z); e != api.ErrMany {
			t.Errorf("the value at %x has no more digits than gauss tells: %d", z, int(e))
		}
		if _, e := checkRadius(t, l, z); e == api.ErrMany {
			t.Errorf("Radius of many digits is ErrMany")
		}
		l[degrees] = complex(0, least)
		l[0] = complex(most, least)
		checkRadius(t, l, z)
	}
	l := ending(degrees, complex(most, least), complex(-most, 0x1.8p-1050))
	if r, e := checkRadius(t, l, complex(most, least)); e != api.OK || r < most || r > most*1.01 {
		t.Errorf("Radius: %x, %d", r, int(e))
	}
}

// Of one zero, n fold, Radius is the distance itself.
func TestP9_5OneZero(t *testing.T) {
	d := newDice()
	for range 2000 {
		u, n := d.whole(4), 1+d.below(7)
		l, e := poly.Of(filled(n, u))
		if e != api.OK {
			t.Fatal(int(e))
		}
		z := d.number(6)
		r, e := zeros.Radius(l, z)
		far := placeOf(z).minus(placeOf(u)).square()
		if e != api.OK || !reaches(r, far, exact(1)) || r > 0 && reaches(math.Nextafter(r, 0), far, exact(1)) {
			t.Errorf("Radius(%v, %x): %x, %d: the zero is %v", l, z, r, int(e), u)
		}
	}
}

// A zero that is known is not farther than Radius.
func TestP9_8KnownZeros(t *testing.T) {
	d := newDice()
	told := 0
	for i := range 4000 {
		known := make(list, 1+d.below(6))
		for k := range known {
			known[k] = d.whole(8)
		}
		l, e := poly.Of(known)
		if e != api.OK {
			t.Fatal(int(e))
		}
		z := d.number(5)
		if i%2 == 0 {
			z = known[0] + complex(math.Ldexp(d.part(1), -d.below(50)), math.Ldexp(d.part(1), -d.below(50)))
		}
		r, e := zeros.Radius(l, z)
		if e != api.OK {
			continue
		}
		told++
		near := false
		for _, u := range known {
			near = near || reaches(r, placeOf(z).minus(placeOf(u)).square(), exact(1))
		}
		if !near {
			t.Errorf("Radius(%v, %x): %x, though the zeros are %v", l, z, r, known)
		}
	}
	if told < 3900 {
		t.Errorf("only %d are told", told)
	}
}

// Zeros that nobody knows: in a box about the place that holds the circle gauss counts at least one, exactly.
func TestP9_8CountedZeros(t *testing.T) {
	d := newDice()
	asked := 0
	for i := range 1200 {
		l := d.list(2+d.below(7), func() complex128 { return d.number(2 + i%8) })
		z := d.number(3)
		if i%2 == 0 {
			z, _ = zeros.Polish(l, z, d.below(5))
		}
		r, e := zeros.Radius(l, z)
		if e != api.OK {
			continue
		}
		under := func(x float64) float64 { return math.Nextafter(x-r, -infinite) }
		above := func(x float64) float64 { return math.Nextafter(x+r, infinite) }
		n, e := gauss.Zeros(l, api.Box{Low: complex(under(real(z)), under(imag(z))), High: complex(above(real(z)), above(imag(z)))})
		if e == api.ErrReal { // a corner that gauss does not take
			continue
		}
		asked++
		if !(e == api.OK && n >= 1 || e == api.ErrBorder) {
			t.Errorf("Radius(%x, %x): %x, but %d zeros are there, %d", l, z, r, n, int(e))
		}
	}
	if asked < 1000 {
		t.Errorf("only %d are asked", asked)
	}
}
