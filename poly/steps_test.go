package poly_test

import (
	"math"
	"testing"

	"eddy/api"
	"eddy/poly"
)

// The operations as calls that are not inlined: none of them can be fused with another one.

//go:noinline
func plus(x, y float64) float64 { return x + y }

//go:noinline
func minus(x, y float64) float64 { return x - y }

//go:noinline
func times(x, y float64) float64 { return x * y }

//go:noinline
func over(x, y float64) float64 { return x / y }

func add(a, b complex128) complex128 {
	return complex(plus(real(a), real(b)), plus(imag(a), imag(b)))
}

func sub(a, b complex128) complex128 {
	return complex(minus(real(a), real(b)), minus(imag(a), imag(b)))
}

func mul(a, b complex128) complex128 {
	p, q, r, s := real(a), imag(a), real(b), imag(b)
	return complex(minus(times(p, r), times(q, s)), plus(times(p, s), times(q, r)))
}

func div(a, b complex128) complex128 {
	p, q, r, s := real(a), imag(a), real(b), imag(b)
	if math.Abs(r) >= math.Abs(s) {
		k := over(s, r)
		t := plus(r, times(s, k))
		return complex(over(plus(p, times(q, k)), t), over(minus(q, times(p, k)), t))
	}
	k := over(r, s)
	t := plus(times(r, k), s)
	return complex(over(plus(times(p, k), q), t), over(minus(times(q, k), p), t))
}

func neg(a complex128) complex128 { return complex(-real(a), -imag(a)) }

func up(x float64) float64 { return math.Nextafter(x, math.Inf(1)) }

func isFinite(a complex128) bool {
	return math.Abs(real(a)) <= greatest && math.Abs(imag(a)) <= greatest
}

// The functions below are the chapter's words, one operation a call; what is handed in may be.

// answer is an answered polynomial.
func answer(l list) (list, api.Errno) {
	for len(l) > 1 && real(l[len(l)-1]) == 0 && imag(l[len(l)-1]) == 0 {
		l = l[:len(l)-1]
	}
	if len(l)-1 > degrees {
		return nil, api.ErrMany
	}
	for _, c := range l {
		if !(math.Abs(real(c)) <= most && math.Abs(imag(c)) <= most) {
			return nil, api.ErrPlace
		}
	}
	return l, api.OK
}

func bothSteps(l list, z complex128) (v, t complex128) {
	v, t = l[len(l)-1], complex(0, 0)
	for further := l[:len(l)-1]; len(further) > 0; further = further[:len(further)-1] {
		t = add(mul(t, z), v)
		v = add(mul(v, z), further[len(further)-1])
	}
	return v, t
}

func slopeSteps(l list) (list, api.Errno) {
	out := list{}
	for i, c := range l {
		if i > 0 {
			out = append(out, complex(times(real(c), float64(i)), times(imag(c), float64(i))))
		}
	}
	if len(out) == 0 {
		return list{0}, api.OK
	}
	return answer(out)
}

func addSteps(a, b list) (list, api.Errno) {
	out := list{}
	for i := range max(len(a), len(b)) {
		switch {
		case i >= len(a):
			out = append(out, b[i])
		case i >= len(b):
			out = append(out, a[i])
		default:
			out = append(out, add(a[i], b[i]))
		}
	}
	return answer(out)
}

func isNoughtPolynomial(l list) bool { return len(l) == 1 && l[0] == 0 }

func mulSteps(a, b list) (list, api.Errno) {
	if isNoughtPolynomial(a) || isNoughtPolynomial(b) {
		return list{0}, api.OK
	}
	if len(a)-1+len(b)-1 > degrees {
		return nil, api.ErrMany
	}
	products := make([]list, len(a)+len(b)-1)
	for i, x := range a {
		for j, y := range b {
			products[i+j] = append(products[i+j], mul(x, y))
		}
	}
	out := list{}
	for _, l := range products {
		sum := l[0]
		for _, p := range l[1:] {
			sum = add(sum, p)
		}
		out = append(out, sum)
	}
	return answer(out)
}

func divSteps(a, b list) (list, list, api.Errno) {
	n, m := len(a)-1, len(b)-1
	if isNoughtPolynomial(b) {
		return nil, nil, api.ErrPlace
	}
	if n < m {
		return list{0}, a, api.OK
	}
	r, q := append(list{}, a...), make(list, n-m+1)
	for k := n - m; k >= 0; k-- {
		q[k] = div(r[k+m], b[m])
		for i := 0; i <= m-1; i++ {
			r[k+i] = sub(r[k+i], mul(q[k], b[i]))
		}
	}
	r = r[:m]
	if m == 0 {
		r = list{0}
	}
	q, e := answer(q)
	r, f := answer(r)
	if e != api.OK || f != api.OK {
		return nil, nil, api.ErrPlace
	}
	return q, r, api.OK
}

func ofSteps(zeros list) (list, api.Errno) {
	p := list{1}
	for _, z := range zeros {
		next := list{neg(mul(z, p[0]))}
		for i := 1; i < len(p); i++ {
			next = append(next, sub(p[i-1], mul(z, p[i])))
		}
		p = append(next, p[len(p)-1])
	}
	return answer(p)
}

func shiftSteps(l list, by complex128) (list, api.Errno) {
	c, n := append(list{}, l...), len(l)-1
	for j := 0; j <= n-1; j++ {
		for i := n - 1; i >= j; i-- {
			c[i] = add(c[i], mul(c[i+1], by))
		}
	}
	return answer(c)
}

func boundSteps(l list) (float64, api.Errno) {
	last := l[len(l)-1]
	if len(l) == 1 {
		if last == 0 {
			return 0, api.ErrPlace
		}
		return 0, api.OK
	}
	m := math.Inf(-1)
	for _, c := range l[:len(l)-1] {
		m = math.Max(m, up(plus(math.Abs(real(c)), math.Abs(imag(c)))))
	}
	d := math.Max(math.Abs(real(last)), math.Abs(imag(last)))
	r := up(plus(1, up(over(m, d))))
	if math.IsInf(r, 0) {
		return 0, api.ErrPlace
	}
	return r, api.OK
}

// tally counts how calls ended: a test by steps is one only where both ways come up.
type tally struct{ well, refused int }

func (c *tally) count(e api.Errno) {
	if e == api.OK {
		c.well++
	} else {
		c.refused++
	}
}

func (c *tally) want(t *testing.T, well, refused int) {
	t.Helper()
	if c.well < well || c.refused < refused {
		t.Errorf("%d well and %d refused are too few", c.well, c.refused)
	}
}

func TestP8_2Steps(t *testing.T) {
	d := newDice()
	var c tally
	for i := range 30000 {
		l, z := d.any(), d.number(1+i%40)
		v, s := bothSteps(l, z)
		e := api.OK
		if !isFinite(v) {
			v, e = 0, api.ErrPlace
		}
		wantAt(t, l, z, v, e)
		if !isFinite(s) {
			e = api.ErrPlace
		}
		if e != api.OK {
			v, s = 0, 0
		}
		wantBoth(t, l, z, v, s, e)
		c.count(e)
	}
	c.want(t, 20000, 100)
}

func TestP8_3Steps(t *testing.T) {
	d := newDice()
	var c tally
	for range 20000 {
		l := d.any()
		ought, e := slopeSteps(l)
		wantSlope(t, l, ought, e)
		c.count(e)
	}
	c.want(t, 10000, 50)
}

func TestP8_4Steps(t *testing.T) {
	d := newDice()
	var c tally
	for i := range 20000 {
		a, b := d.any(), d.any()
		if i%4 == 0 { // the last ones cancel
			b = append(list{}, a...)
			for j := range b {
				b[j] = neg(b[j])
			}
			b[d.below(len(b))] = d.number(3)
			if poly.Check(b) != api.OK {
				continue
			}
		}
		if i%4 == 1 {
			a, b = d.list(5, d.great), d.list(1+d.below(9), d.great)
		}
		ought, e := addSteps(a, b)
		wantAdd(t, a, b, ought, e)
		c.count(e)
	}
	c.want(t, 10000, 1000)
}

func TestP8_5Steps(t *testing.T) {
	d := newDice()
	var c tally
	for range 20000 {
		a, b := d.any(), d.any()
		ought, e := mulSteps(a, b)
		wantMul(t, a, b, ought, e)
		c.count(e)
	}
	c.want(t, 5000, 1000)
}

func TestP8_6Steps(t *testing.T) {
	d := newDice()
	var c tally
	for i := range 30000 {
		a, b := d.any(), d.any()
		if i%3 == 0 {
			a, b = d.polynomial(12, 2), d.polynomial(6, 2)
		}
		q, r, e := divSteps(a, b)
		wantDiv(t, a, b, q, r, e)
		c.count(e)
	}
	c.want(t, 5000, 1000)
}

func TestP8_7Steps(t *testing.T) {
	d := newDice()
	var c tally
	for i := range 10000 {
		n, reach := d.below(10), 3
		switch i % 4 {
		case 0:
			n, reach = d.below(4), 22
		case 1:
			n, reach = d.below(degrees+1), 1
		}
		zeros := make(list, n)
		for j := range zeros {
			zeros[j] = d.number(reach)
		}
		ought, e := ofSteps(zeros)
		wantOf(t, zeros, ought, e)
		c.count(e)
	}
	c.want(t, 5000, 200)
}

func TestP8_8Steps(t *testing.T) {
	d := newDice()
	var c tally
	for i := range 10000 {
		l, by := d.any(), d.number(1+i%5)
		ought, e := shiftSteps(l, by)
		wantShift(t, l, by, ought, e)
		c.count(e)
	}
	c.want(t, 3000, 1000)
}

func TestP8_9Steps(t *testing.T) {
	d := newDice()
	var c tally
	for i := range 30000 {
		l := d.any()
		if i%4 == 0 { // a last coefficient among the smallest floats, or near to them
			l[len(l)-1] = complex(math.Ldexp(d.part(3), -d.below(1074)), math.Ldexp(d.part(3), -d.below(1074)))
			if poly.Check(l) != api.OK {
				continue
			}
		}
		ought, e := boundSteps(l)
		wantBound(t, l, ought, e)
		c.count(e)
	}
	c.want(t, 10000, 10)
}
