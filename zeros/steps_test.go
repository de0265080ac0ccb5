package zeros_test

import (
	"math"
	"testing"

	"eddy/angle"
	"eddy/api"
	"eddy/poly"
	"eddy/roots"
	"eddy/zeros"
)

// The operations as calls that are not inlined: none of them can be fused with another one.

//go:noinline
func plus(x, y float64) float64 { return x + y }

//go:noinline
func minus(x, y float64) float64 { return x - y }

//go:noinline
func times(x, y float64) float64 { return x * y }

//go:noinline
func over(x, y float64) float64 { return x / y }

func add(a, b complex128) complex128 {
	return complex(plus(real(a), real(b)), plus(imag(a), imag(b)))
}

func sub(a, b complex128) complex128 {
	return complex(minus(real(a), real(b)), minus(imag(a), imag(b)))
}

func mul(a, b complex128) complex128 {
	p, q, r, s := real(a), imag(a), real(b), imag(b)
	return complex(minus(times(p, r), times(q, s)), plus(times(p, s), times(q, r)))
}

func div(a, b complex128) complex128 {
	p, q, r, s := real(a), imag(a), real(b), imag(b)
	if math.Abs(r) >= math.Abs(s) {
		k := over(s, r)
		t := plus(r, times(s, k))
		return complex(over(plus(p, times(q, k)), t), over(minus(q, times(p, k)), t))
	}
	k := over(r, s)
	t := plus(times(r, k), s)
	return complex(over(plus(times(p, k), q), t), over(minus(times(q, k), p), t))
}

func scale(a complex128, s float64) complex128 {
	return complex(times(real(a), s), times(imag(a), s))
}

func isFinite(a complex128) bool {
	return math.Abs(real(a)) <= greatest && math.Abs(imag(a)) <= greatest
}

func isPlace(a complex128) bool { return math.Abs(real(a)) <= most && math.Abs(imag(a)) <= most }

// The functions below are the chapter's words, one operation a call; what is handed in may be.

func beginSteps(l list) list {
	b, e := poly.Bound(l)
	if e != api.OK || b > most {
		return nil
	}
	b = over(b, 2)
	high, _ := angle.Pi()
	n := len(l) - 1
	out := list{}
	for k := 0; k <= n-1; k++ {
		out = append(out, roots.Place(b, over(times(plus(float64(2*k), 0.5), high), float64(n))))
	}
	return out
}

func bothSteps(l list, z complex128) (v, t complex128, refused bool) {
	v, t = l[len(l)-1], complex(0, 0)
	for i := len(l) - 2; i >= 0; i-- {
		t = add(mul(t, z), v)
		v = add(mul(v, z), l[i])
	}
	return v, t, !isFinite(v) || !isFinite(t)
}

// stepOf is where one step takes the place with the number k.
func stepOf(l, z list, k int) complex128 {
	v, s, refused := bothSteps(l, z[k])
	if refused || v == 0 {
		return z[k]
	}
	w := div(v, s)
	a := complex(0, 0)
	for j := 0; j < len(z); j++ {
		if j == k {
			continue
		}
		if d := sub(z[k], z[j]); d != 0 {
			a = add(a, div(complex(1, 0), d))
		}
	}
	m := div(w, sub(complex(1, 0), mul(w, a)))
	if !isFinite(m) || !isPlace(sub(z[k], m)) {
		return z[k]
	}
	return sub(z[k], m)
}

func roundSteps(l, z list) list {
	z = append(list{}, z...)
	for k := range z {
		z[k] = stepOf(l, z, k)
	}
	return z
}

func areSettled(next, last list) bool {
	for k := range next {
		if !(roots.Length(sub(next[k], last[k])) <= times(0x1p-48, roots.Length(next[k]))) {
			return false
		}
	}
	return true
}

// inRow puts each one behind all that do not stand behind it.
func inRow(l list) list {
	out := list{}
	for _, a := range l {
		at := len(out)
		for at > 0 && !isAhead(out[at-1], a) {
			at--
		}
		out = append(out[:at:at], append(list{a}, out[at:]...)...)
	}
	return out
}

func allSteps(l list, most int) (list, int, api.Errno) {
	z := beginSteps(l)
	if len(l) == 1 {
		return z, 0, api.OK
	}
	for n := 1; n <= most; n++ {
		y := roundSteps(l, z)
		if areSettled(y, z) {
			return inRow(y), n, api.OK
		}
		z = y
	}
	return nil, 0, api.ErrSteps
}

func polishSteps(l list, z complex128, steps int) complex128 {
	for range steps {
		v, s, refused := bothSteps(l, z)
		if refused || v == 0 {
			return z
		}
		m := div(v, s)
		if !isFinite(m) || !isPlace(sub(z, m)) {
			return z
		}
		z = sub(z, m)
	}
	return z
}

func squareSteps(l list) (complex128, complex128, api.Errno) {
	a, b, c := l[2], l[1], l[0]
	d := sub(mul(b, b), mul(scale(a, 4), c))
	s := roots.Root(d)
	if plus(times(real(b), real(s)), times(imag(b), imag(s))) < 0 {
		s = complex(-real(s), -imag(s))
	}
	q := scale(add(b, s), -0.5)
	if q == 0 {
		return 0, 0, api.OK
	}
	row := inRow(list{div(q, a), div(c, q)})
	if !isFinite(row[0]) || !isFinite(row[1]) {
		return 0, 0, api.ErrPlace
	}
	return row[0], row[1], api.OK
}

func TestP9_1Steps(t *testing.T) {
	d := newDice()
	well := 0
	for range 4000 {
		l := d.any()
		b, e := poly.Bound(l)
		if e == api.OK && b > most {
			e = api.ErrPlace
		}
		wantBegin(t, l, beginSteps(l), e)
		if e == api.OK {
			well++
		}
	}
	if well < 2000 {
		t.Errorf("only %d are told", well)
	}
}

func TestP9_2Steps(t *testing.T) {
	d := newDice()
	for i := range 6000 {
		l := d.any()
		z := d.places(l, 1+i%20)
		wantRound(t, l, z, roundSteps(l, z), api.OK)
		wantRound(t, l, roundSteps(l, z), roundSteps(l, roundSteps(l, z)), api.OK)
	}
	for range 300 { // at the greatest degree sums are long
		l := d.list(degrees+1, func() complex128 { return d.number(1) })
		z := d.places(l, 1)
		wantRound(t, l, z, roundSteps(l, z), api.OK)
	}
}

// Next to zeros, where nearly all cancels and the pushes are great.
func TestP9_2StepsNearZeros(t *testing.T) {
	d := newDice()
	for range 3000 {
		z := make(list, 1+d.below(6))
		for i := range z {
			z[i] = d.whole(3)
		}
		l, e := poly.Of(z)
		if e != api.OK {
			t.Fatal(int(e))
		}
		for i := range z {
			if d.below(3) > 0 {
				z[i] += complex(d.part(1), d.part(1)) * complex(math.Ldexp(1, -d.below(60)), 0)
			}
		}
		wantRound(t, l, z, roundSteps(l, z), api.OK)
	}
}

func TestP9_3Steps(t *testing.T) {
	d := newDice()
	told := 0
	for range 500 {
		l := d.polynomial(9, 4)
		if l[len(l)-1] == 0 {
			continue
		}
		z, n, e := allSteps(l, 50)
		wantAll(t, l, 50, z, n, e)
		if e == api.OK && n > 2 {
			told++
		}
	}
	if told < 300 {
		t.Errorf("only %d are told", told)
	}
	for _, l := range []list{{1, -2, 1}, {-1, 3, -3, 1}, {1, 0, 2, 0, 1}, {0, 0, 1}, {0, 0, 0, 1}, {0, 1}, {7, 3}, {1, 0, 1}, {0, -1, 0, 1}, ending(degrees, 1i, 3), ending(40, -7, 2i)} {
		z, n, e := allSteps(l, 400)
		if e != api.OK {
			t.Errorf("%v is not settled", l)
		}
		wantAll(t, l, 400, z, n, e)
		wantAll(t, l, n-1, nil, 0, api.ErrSteps)
	}
}

func TestP9_4Words(t *testing.T) {
	d := newDice()
	for i := range 6000 {
		l, z, n := d.any(), d.number(1+i%30), d.below(30)
		wantPolish(t, l, z, n, polishSteps(l, z, n), api.OK)
	}
}

func TestP9_6Steps(t *testing.T) {
	d := newDice()
	for i := range 20000 {
		l := d.list(3, func() complex128 {
			if i%4 == 0 {
				return d.whole(3)
			}
			return d.number(1 + i%40)
		})
		a, b, e := squareSteps(l)
		wantSquare(t, l, a, b, e)
	}
	for range 4000 { // products among the least floats, where 4 * (a * c) is not (4 * a) * c
		l := d.list(3, func() complex128 { return scale(d.number(8), 0x1p-535) })
		a, b, e := squareSteps(l)
		wantSquare(t, l, a, b, e)
	}
	small := list{0, complex(minusNought, 0), 1, -1, complex(minusNought, 2), complex(-2, minusNought), 1i, complex(minusNought, -1), least, 0x1p-540, complex(0, 0x1p-1000), most, 3 - 4i}
	for _, a := range small {
		for _, b := range small {
			for _, c := range small {
				if a != 0 {
					x, y, e := squareSteps(list{c, b, a})
					wantSquare(t, list{c, b, a}, x, y, e)
				}
			}
		}
	}
}

// The words above are held against the package; here it is asked that samples tell orders apart: the pushes summed from behind would come to other bits.
func TestP9_2OrderIsSeen(t *testing.T) {
	d := newDice()
	seen := 0
	for range 200 {
		l := d.list(8, func() complex128 { return d.number(1) })
		z := d.places(l, 1)
		y, e := zeros.Round(l, z)
		if e != api.OK {
			t.Fatal(int(e))
		}
		back := make(list, len(z))
		for k := range z {
			back[len(z)-1-k] = z[k]
		}
		if !same(y[0], stepOf(l, back, len(z)-1)) {
			seen++
		}
	}
	if seen < 50 {
		t.Errorf("the order is seen in %d of 200", seen)
	}
}
