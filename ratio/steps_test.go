package ratio_test

import (
	"math"
	"testing"

	"eddy/api"
)

// The operations as calls that are not inlined: none of them can be fused with another one.

//go:noinline
func plus(x, y float64) float64 { return x + y }

//go:noinline
func minus(x, y float64) float64 { return x - y }

//go:noinline
func times(x, y float64) float64 { return x * y }

//go:noinline
func over(x, y float64) float64 { return x / y }

func add(a, b complex128) complex128 {
	return complex(plus(real(a), real(b)), plus(imag(a), imag(b)))
}

func sub(a, b complex128) complex128 {
	return complex(minus(real(a), real(b)), minus(imag(a), imag(b)))
}

func mul(a, b complex128) complex128 {
	p, q, r, s := real(a), imag(a), real(b), imag(b)
	return complex(minus(times(p, r), times(q, s)), plus(times(p, s), times(q, r)))
}

func div(a, b complex128) complex128 {
	p, q, r, s := real(a), imag(a), real(b), imag(b)
	if math.Abs(r) >= math.Abs(s) {
		k := over(s, r)
		t := plus(r, times(s, k))
		return complex(over(plus(p, times(q, k)), t), over(minus(q, times(p, k)), t))
	}
	k := over(r, s)
	t := plus(times(r, k), s)
	return complex(over(plus(times(p, k), q), t), over(minus(times(q, k), p), t))
}

func neg(a complex128) complex128 { return complex(-real(a), -imag(a)) }

func isFinite(a complex128) bool {
	return math.Abs(real(a)) <= greatest && math.Abs(imag(a)) <= greatest
}

// Chapter 8's words, of polynomials that may be, one operation a call.

func answer(l list) (list, api.Errno) {
	for len(l) > 1 && real(l[len(l)-1]) == 0 && imag(l[len(l)-1]) == 0 {
		l = l[:len(l)-1]
	}
	if len(l)-1 > degrees {
		return nil, api.ErrMany
	}
	for _, c := range l {
		if !(math.Abs(real(c)) <= most && math.Abs(imag(c)) <= most) {
			return nil, api.ErrPlace
		}
	}
	return l, api.OK
}

func valueSteps(l list, z complex128) (complex128, api.Errno) {
	v := l[len(l)-1]
	for i := len(l) - 2; i >= 0; i-- {
		v = add(mul(v, z), l[i])
	}
	if !isFinite(v) {
		return 0, api.ErrPlace
	}
	return v, api.OK
}

func derivedSteps(l list) (list, api.Errno) {
	out := list{}
	for i, c := range l {
		if i > 0 {
			out = append(out, complex(times(real(c), float64(i)), times(imag(c), float64(i))))
		}
	}
	if len(out) == 0 {
		return list{0}, api.OK
	}
	return answer(out)
}

func plusSteps(a, b list) (list, api.Errno) {
	out := list{}
	for i := range max(len(a), len(b)) {
		switch {
		case i >= len(a):
			out = append(out, b[i])
		case i >= len(b):
			out = append(out, a[i])
		default:
			out = append(out, add(a[i], b[i]))
		}
	}
	return answer(out)
}

func timesSteps(a, b list) (list, api.Errno) {
	if isNoughtPolynomial(a) || isNoughtPolynomial(b) {
		return list{0}, api.OK
	}
	if len(a)-1+len(b)-1 > degrees {
		return nil, api.ErrMany
	}
	products := make([]list, len(a)+len(b)-1)
	for i, x := range a {
		for j, y := range b {
			products[i+j] = append(products[i+j], mul(x, y))
		}
	}
	out := list{}
	for _, l := range products {
		sum := l[0]
		for _, p := range l[1:] {
			sum = add(sum, p)
		}
		out = append(out, sum)
	}
	return answer(out)
}

func ofSteps(zeros list) (list, api.Errno) {
	p := list{1}
	for _, z := range zeros {
		next := list{neg(mul(z, p[0]))}
		for i := 1; i < len(p); i++ {
			next = append(next, sub(p[i-1], mul(z, p[i])))
		}
		p = append(next, p[len(p)-1])
	}
	return answer(p)
}

// The chapter's own words, of fractions that may be. Each line that may be refused leaves by a panic, which refusal takes as the error.

func must(l list, e api.Errno) list {
	if e != api.OK {
		panic(e)
	}
	return l
}

func mustNumber(a complex128, e api.Errno) complex128 {
	if e != api.OK {
		panic(e)
	}
	return a
}

// refusal runs what answers, and takes its error.
func refusal[T any](does func() T) (out T, e api.Errno) {
	defer func() {
		if r := recover(); r != nil {
			var nothing T
			out, e = nothing, r.(api.Errno)
		}
	}()
	return does(), api.OK
}

func answerFraction(top, bottom list) fraction {
	if isNoughtPolynomial(bottom) {
		panic(api.ErrPlace)
	}
	return of(top, bottom)
}

func quotientSteps(top, bottom list, z complex128) complex128 {
	a := mustNumber(valueSteps(top, z))
	b := mustNumber(valueSteps(bottom, z))
	if real(b) == 0 && imag(b) == 0 {
		panic(api.ErrPlace)
	}
	v := div(a, b)
	if !isFinite(v) {
		panic(api.ErrPlace)
	}
	return v
}

func slopeOf(f fraction) (fraction, api.Errno) {
	return refusal(func() fraction {
		p := must(derivedSteps(f.Top))
		q := must(derivedSteps(f.Bottom))
		first := must(timesSteps(p, f.Bottom))
		second := append(list{}, must(timesSteps(f.Top, q))...)
		for i := range second {
			second[i] = neg(second[i])
		}
		top := must(plusSteps(first, second))
		return answerFraction(top, must(timesSteps(f.Bottom, f.Bottom)))
	})
}

func addOf(f, g fraction) (fraction, api.Errno) {
	return refusal(func() fraction {
		first := must(timesSteps(f.Top, g.Bottom))
		second := must(timesSteps(g.Top, f.Bottom))
		top := must(plusSteps(first, second))
		return answerFraction(top, must(timesSteps(f.Bottom, g.Bottom)))
	})
}

func mulOf(f, g fraction) (fraction, api.Errno) {
	return refusal(func() fraction {
		top := must(timesSteps(f.Top, g.Top))
		return answerFraction(top, must(timesSteps(f.Bottom, g.Bottom)))
	})
}

func polesOf(f fraction, at list) ([]pole, api.Errno) {
	return refusal(func() []pole {
		slope := must(derivedSteps(f.Bottom))
		out := []pole{}
		for _, z := range at {
			out = append(out, pole{At: z, Residue: quotientSteps(f.Top, slope, z)})
		}
		return out
	})
}

func fractionOf(l []pole, rest list) (fraction, api.Errno) {
	return refusal(func() fraction {
		all := list{}
		for _, p := range l {
			all = append(all, p.At)
		}
		bottom := must(ofSteps(all))
		top := list{0}
		if len(rest) > 0 {
			top = must(timesSteps(rest, bottom))
		}
		for k, p := range l {
			others := list{}
			for j, a := range all {
				if j != k {
					others = append(others, a)
				}
			}
			top = must(plusSteps(top, must(timesSteps(list{p.Residue}, must(ofSteps(others))))))
		}
		return answerFraction(top, bottom)
	})
}

// tally counts how calls ended: a test by steps is one only where all ways come up.
type tally map[api.Errno]int

func (c tally) want(t *testing.T, most int, errors ...api.Errno) {
	t.Helper()
	for _, e := range append(errors, api.OK) {
		if c[e] < most {
			t.Errorf("only %d end with %d", c[e], int(e))
		}
	}
}

func TestP10_2Steps(t *testing.T) {
	d, c := newDice(), tally{}
	for i := range 20000 {
		f, z := d.fraction(), d.number(1+i%40)
		if i%7 == 0 {
			z = 0
		}
		ought, e := refusal(func() complex128 { return quotientSteps(f.Top, f.Bottom, z) })
		wantAt(t, f, z, ought, e)
		c[e]++
	}
	c.want(t, 300, api.ErrPlace)
}

func TestP10_3Steps(t *testing.T) {
	d, c := newDice(), tally{}
	for range 10000 {
		f := d.fraction()
		ought, e := slopeOf(f)
		wantSlope(t, f, ought, e)
		c[e]++
	}
	c.want(t, 300, api.ErrPlace, api.ErrMany)
}

func TestP10_4Steps(t *testing.T) {
	d, sums, products := newDice(), tally{}, tally{}
	for range 10000 {
		f, g := d.fraction(), d.fraction()
		ought, e := addOf(f, g)
		wantAdd(t, f, g, ought, e)
		sums[e]++
		ought, e = mulOf(f, g)
		wantMul(t, f, g, ought, e)
		products[e]++
	}
	sums.want(t, 300, api.ErrPlace, api.ErrMany)
	products.want(t, 300, api.ErrPlace, api.ErrMany)
}

func TestP10_5Steps(t *testing.T) {
	d, c := newDice(), tally{}
	for i := range 10000 {
		f := d.fraction()
		at := d.numbers(len(f.Bottom)-1, 1+i%20)
		if i%5 == 0 && len(at) > 0 {
			at[d.below(len(at))] = noughts[i%4]
		}
		ought, e := polesOf(f, at)
		wantPoles(t, f, at, ought, e)
		c[e]++
	}
	c.want(t, 100, api.ErrPlace)
}

func TestP10_6Steps(t *testing.T) {
	d, c := newDice(), tally{}
	for i := range 4000 {
		n, reach := d.below(7), 3
		switch i % 5 {
		case 0:
			n, reach = d.below(4), 15
		case 1:
			n, reach = d.below(degrees+1), 1
		}
		l := make([]pole, n)
		for k := range l {
			l[k] = pole{At: d.number(reach), Residue: d.number(reach)}
			if d.below(6) == 0 {
				l[k].At = l[d.below(k+1)].At
			}
			if d.below(9) == 0 {
				l[k].Residue = noughts[d.below(4)]
			}
		}
		var rest list
		switch d.below(3) {
		case 0:
			rest = d.any()
		case 1:
			rest = d.polynomial(3, 3)
		}
		ought, e := fractionOf(l, rest)
		wantOf(t, l, rest, ought, e)
		c[e]++
	}
	c.want(t, 30, api.ErrPlace, api.ErrMany)
}
