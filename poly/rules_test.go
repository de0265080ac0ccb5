package poly_test

import (
	"math"
	"math/big"
	"testing"

	"eddy/api"
	"eddy/poly"
)

func conj(a complex128) complex128 { return complex(real(a), -imag(a)) }

func TestP8_11BothIsAt(t *testing.T) {
	d := newDice()
	for i := range 20000 {
		l, z := d.any(), d.number(1+i%12)
		v, e := poly.At(l, z)
		both, _, f := poly.Both(l, z)
		if f == api.OK && (e != api.OK || !same(v, both)) {
			t.Errorf("At(%x, %x): %x, %d, and by Both %x", l, z, v, int(e), both)
		}
	}
}

func TestP8_11Mirror(t *testing.T) {
	d := newDice()
	for i := range 20000 {
		l, z := d.any(), d.number(1+i%12)
		m := append(list{}, l...)
		for j := range m {
			m[j] = conj(m[j])
		}
		v, s, e := poly.Both(l, z)
		w, r, f := poly.Both(m, conj(z))
		if w != conj(v) || r != conj(s) || e != f {
			t.Errorf("Both(%x, %x): %x, %x, and of the mirror image %x, %x", l, z, v, s, w, r)
		}
		a, e := poly.At(l, z)
		b, f := poly.At(m, conj(z))
		if b != conj(a) || e != f {
			t.Errorf("At(%x, %x): %x, and of the mirror image %x", l, z, a, b)
		}
	}
}

// point is a complex number of whole numbers: the exact values of P8.12 fit in.
type point struct{ x, y int64 }

func (a point) plus(b point) point  { return point{a.x + b.x, a.y + b.y} }
func (a point) times(b point) point { return point{a.x*b.x - a.y*b.y, a.x*b.y + a.y*b.x} }

func pointOf(a complex128) point     { return point{int64(real(a)), int64(imag(a))} }
func (a point) number() complex128   { return complex(float64(a.x), float64(a.y)) }
func (a point) is(b complex128) bool { return a.number() == b && pointOf(b) == a }
func (a point) power(n int) (p point) {
	p = point{1, 0}
	for range n {
		p = p.times(a)
	}
	return p
}

// exactAt adds up powers, not by Horner's steps.
func exactAt(l list, z complex128) point {
	var sum point
	for i, c := range l {
		sum = sum.plus(pointOf(c).times(pointOf(z).power(i)))
	}
	return sum
}

// exactly takes what a call on whole numbers answers; there no error comes up.
func exactly(t *testing.T, ought []point, got list, e api.Errno) {
	t.Helper()
	for len(ought) > 1 && ought[len(ought)-1] == (point{}) {
		ought = ought[:len(ought)-1]
	}
	if e != api.OK || len(got) != len(ought) {
		t.Errorf("%v, %d, not %v", got, int(e), ought)
		return
	}
	for i, a := range ought {
		if !a.is(got[i]) {
			t.Errorf("%v, not %v", got, ought)
		}
	}
}

func exactMul(a, b []point) []point {
	out := make([]point, len(a)+len(b)-1)
	for i, x := range a {
		for j, y := range b {
			out[i+j] = out[i+j].plus(x.times(y))
		}
	}
	return out
}

func points(l list) []point {
	out := make([]point, len(l))
	for i, c := range l {
		out[i] = pointOf(c)
	}
	return out
}

func exactSlope(l list) []point {
	if len(l) == 1 {
		return []point{{}}
	}
	out := make([]point, len(l)-1)
	for i := range out {
		out[i] = pointOf(l[i+1]).times(point{int64(i + 1), 0})
	}
	return out
}

func exactAdd(a, b list) []point {
	out := make([]point, max(len(a), len(b)))
	for i, c := range a {
		out[i] = pointOf(c)
	}
	for i, c := range b {
		out[i] = out[i].plus(pointOf(c))
	}
	return out
}

// exactShift is the sum of coefficients times powers of z + by.
func exactShift(l list, by complex128) []point {
	out := make([]point, len(l))
	power := []point{{1, 0}}
	for _, c := range l {
		for i, a := range power {
			out[i] = out[i].plus(a.times(pointOf(c)))
		}
		power = exactMul(power, []point{pointOf(by), {1, 0}})
	}
	return out
}

func exactOf(zeros list) []point {
	out := []point{{1, 0}}
	for _, z := range zeros {
		out = exactMul(out, []point{pointOf(z).times(point{-1, 0}), {1, 0}})
	}
	return out
}

// zeros are up to 6 whole places.
func (d *dice) zeros() list {
	l := make(list, d.below(7))
	for i := range l {
		l[i] = d.whole()
	}
	return l
}

func TestP8_12Exact(t *testing.T) {
	d := newDice()
	for range 20000 {
		a, b, z := d.wholes(), d.wholes(), d.whole()
		v, e := poly.At(a, z)
		if e != api.OK || !exactAt(a, z).is(v) {
			t.Errorf("At(%v, %v): %v, not %v", a, z, v, exactAt(a, z))
		}
		l, e := poly.Slope(a)
		exactly(t, exactSlope(a), l, e)
		l, e = poly.Add(a, b)
		exactly(t, exactAdd(a, b), l, e)
		l, e = poly.Mul(a, b)
		exactly(t, exactMul(points(a), points(b)), l, e)
		l, e = poly.Shift(a, z)
		exactly(t, exactShift(a, z), l, e)
		zeros := d.zeros()
		l, e = poly.Of(zeros)
		exactly(t, exactOf(zeros), l, e)
	}
}

// At the ends of what P8.12 speaks of.
func TestP8_12Greatest(t *testing.T) {
	for _, a := range []complex128{8 + 8i, 8 - 8i, -8 + 8i, -8 - 8i, 8, -8i} {
		for _, z := range []complex128{8 + 8i, 8 - 8i, -8 + 8i, -8 - 8i, 8, -8i} {
			l := filled(7, a)
			product, e := poly.Mul(l, l)
			exactly(t, exactMul(points(l), points(l)), product, e)
			v, e := poly.At(product, z)
			if w := exactAt(l, z); e != api.OK || !w.times(w).is(v) {
				t.Errorf("At of the product of %v and itself, at %v: %v, not %v", l, z, v, w.times(w))
			}
			shifted, e := poly.Shift(l, z)
			exactly(t, exactShift(l, z), shifted, e)
			p, e := poly.Of(filled(6, z))
			exactly(t, exactOf(filled(6, z)), p, e)
		}
	}
}

// valueOf is At's, where it must be well.
func valueOf(t *testing.T, l list, z complex128) complex128 {
	t.Helper()
	v, e := poly.At(l, z)
	if e != api.OK {
		t.Errorf("At(%v, %v): %d", l, z, int(e))
	}
	return v
}

func TestP8_12Rules(t *testing.T) {
	d := newDice()
	for range 20000 {
		a, b, z, by := d.wholes(), d.wholes(), d.whole(), d.whole()
		product, e := poly.Mul(a, b)
		if v, w := valueOf(t, a, z), valueOf(t, b, z); e != api.OK || valueOf(t, product, z) != mul(v, w) {
			t.Errorf("the product of %v and %v, at %v", a, b, z)
		}
		shifted, e := poly.Shift(a, by)
		if e != api.OK || valueOf(t, shifted, z) != valueOf(t, a, z+by) {
			t.Errorf("%v shifted by %v, at %v", a, by, z)
		}
		zeros := d.zeros()
		p, e := poly.Of(zeros)
		for _, x := range zeros {
			if e != api.OK || valueOf(t, p, x) != 0 {
				t.Errorf("%v is no zero of Of %v", x, zeros)
			}
		}
		b[len(b)-1] = 1
		product, _ = poly.Mul(a, b)
		q, r, e := poly.Div(product, b)
		if e != api.OK || !likeLists(q, a) || !likeLists(r, list{0}) {
			t.Errorf("%v times %v and back: %v, %v, %d", a, b, q, r, int(e))
		}
	}
}

// So many bits hold every value of P8.13 exactly: 64 places of 92 bits below the point, and 710 above it.
const bits = 7000

func exact(x float64) *big.Float { return new(big.Float).SetPrec(bits).SetFloat64(x) }

func sum(a, b *big.Float) *big.Float        { return new(big.Float).SetPrec(bits).Add(a, b) }
func difference(a, b *big.Float) *big.Float { return new(big.Float).SetPrec(bits).Sub(a, b) }
func product(a, b *big.Float) *big.Float    { return new(big.Float).SetPrec(bits).Mul(a, b) }
func worth(a *big.Float) *big.Float         { return new(big.Float).SetPrec(bits).Abs(a) }

// trueAt is the true value; far is S, the sum of the coefficients' worths times those of z's powers.
func trueAt(l list, z complex128) (re, im, far *big.Float) {
	re, im, far = exact(0), exact(0), exact(0)
	x, y, reach := exact(real(z)), exact(imag(z)), worthOf(z)
	for i := len(l) - 1; i >= 0; i-- {
		re, im = difference(product(re, x), product(im, y)), sum(product(re, y), product(im, x))
		re, im = sum(re, exact(real(l[i]))), sum(im, exact(imag(l[i])))
		far = sum(product(far, reach), worthOf(l[i]))
	}
	return re, im, far
}

func worthOf(a complex128) *big.Float {
	return sum(exact(math.Abs(real(a))), exact(math.Abs(imag(a))))
}

func checkNear(t *testing.T, l list, z complex128) {
	t.Helper()
	v, e := poly.At(l, z)
	re, im, far := trueAt(l, z)
	off := sum(worth(difference(re, exact(real(v)))), worth(difference(im, exact(imag(v)))))
	if e != api.OK || off.Cmp(sum(product(exact(0x1p-42), far), exact(0x1p-900))) > 0 {
		t.Errorf("At(%x, %x): %x, %d: off by %g", l, z, v, int(e), off)
	}
}

// middling is a part as P8.13 has them: 0, or from 2^-40 to 2^10 in worth.
func (d *dice) middling() float64 {
	switch x := math.Ldexp(d.part(25), -15); {
	case math.Abs(x) > 0x1p10:
		return 0x1p10
	case d.below(16) == 0:
		return math.Copysign(0x1p10, x)
	case d.below(16) == 0:
		return math.Copysign(0x1p-40, x)
	default:
		return x
	}
}

func TestP8_13Near(t *testing.T) {
	d := newDice()
	throw := func() complex128 { return complex(d.middling(), d.middling()) }
	for i := range 600 {
		l, z := d.list(d.below(degrees+1)+1, throw), throw()
		checkNear(t, l, z)
		near := complex(1+d.part(20)*0x1p-20, d.part(20)*0x1p-20)
		if i%2 == 0 && math.Abs(imag(near)) >= 0x1p-40 {
			checkNear(t, l, near)
		}
	}
	for _, x := range []float64{0x1p10, 0x1p-40, 1, math.Nextafter(0x1p10, 0)} {
		for _, z := range []complex128{complex(x, x), complex(x, -x), complex(0, x), complex(-x, minusNought), 0} {
			checkNear(t, filled(degrees+1, complex(0x1p10, 0x1p10)), z)
			checkNear(t, filled(degrees+1, complex(0x1p-40, -0x1p10)), z)
			checkNear(t, ending(degrees, 1), z) // at 2^-40 it vanishes
			checkNear(t, ending(degrees, 0x1p-40), z)
		}
	}
}

// Next to a zero nearly all cancels.
func TestP8_13NearZeros(t *testing.T) {
	d := newDice()
	for range 300 {
		zeros := d.zeros()
		l, e := poly.Of(zeros)
		if e != api.OK || len(zeros) == 0 {
			continue
		}
		for i, c := range l {
			if math.Abs(real(c)) > 0x1p10 || math.Abs(imag(c)) > 0x1p10 {
				l[i] = 1
			}
		}
		for _, z := range zeros {
			checkNear(t, l, z)
			checkNear(t, l, complex(real(z)+0x1p-30, imag(z)-0x1p-28))
		}
	}
}

// length is the true length of a, rounded at the last of many bits.
func length(a complex128) *big.Float {
	x, y := exact(real(a)), exact(imag(a))
	square := sum(product(x, x), product(y, y))
	return new(big.Float).SetPrec(bits).Sqrt(square)
}

// checkBound asks that from Bound on outward the last power outweighs all others together: no value is nought there.
func checkBound(t *testing.T, l list) {
	t.Helper()
	bound, e := poly.Bound(l)
	if e != api.OK {
		return
	}
	others, power := exact(0), exact(1)
	for _, c := range l[:len(l)-1] {
		others = sum(others, product(length(c), power))
		power = product(power, exact(bound))
	}
	if others.Cmp(product(length(l[len(l)-1]), power)) >= 0 {
		t.Errorf("Bound(%x): %x lets zeros lie farther out", l, bound)
	}
}

func TestP8_14Outward(t *testing.T) {
	d := newDice()
	for i := range 1500 {
		l := d.any()
		if i%3 == 0 && len(l) > 1 {
			l[len(l)-1] = complex(math.Ldexp(1, -d.below(1075)), math.Ldexp(d.part(1), -d.below(1075)))
		}
		if isNoughtPolynomial(l) {
			continue
		}
		checkBound(t, l)
	}
	for _, a := range ends() {
		for _, b := range ends() {
			if b != 0 {
				checkBound(t, list{a, b})
				checkBound(t, list{a, b, b})
			}
		}
	}
}

// farther tells whether z is farther from 0 than r, exactly.
func farther(z complex128, r float64) bool { return length(z).Cmp(exact(r)) > 0 }

func TestP8_14Zeros(t *testing.T) {
	d := newDice()
	for range 5000 {
		zeros := d.zeros()
		p, e := poly.Of(zeros)
		r, f := poly.Bound(p)
		if e != api.OK || f != api.OK {
			t.Fatal(zeros, int(e), int(f))
		}
		for _, z := range zeros {
			if farther(z, r) {
				t.Errorf("%v, a zero of %v, is beyond %v", z, p, r)
			}
		}
	}
	// of lines: the zero is known, and with a real last coefficient of one part it comes as near to the bound as it can
	for range 5000 {
		a, b := d.number(20), math.Ldexp(1, d.below(40)-20)
		r, e := poly.Bound(list{a, complex(b, 0)})
		if e != api.OK || farther(complex(real(a)/b, imag(a)/b), r) {
			t.Errorf("the zero of %x + %x z is beyond %x", a, b, r)
		}
	}
}
