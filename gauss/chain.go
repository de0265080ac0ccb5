package gauss

import (
	"slices"

	"eddy/whole"
)

// polynomial is a real one, its coefficients whole, the last one not nought; without any it is nought.
type polynomial []whole.Number

func trimmed(p polynomial) polynomial {
	for len(p) > 0 && p[len(p)-1].Sign() == 0 {
		p = p[:len(p)-1]
	}
	return p
}

func (p polynomial) lead() whole.Number { return p[len(p)-1] }

func (p polynomial) at(x whole.Number) whole.Number {
	var v whole.Number
	for i := range p {
		v = v.Times(x).Plus(p[len(p)-1-i])
	}
	return v
}

// slope is the derivative of what is not nought.
func (p polynomial) slope() polynomial {
	out := make(polynomial, len(p)-1)
	for i := range out {
		out[i] = p[i+1].Times(whole.Of(i + 1))
	}
	return out
}

func (p polynomial) turned() polynomial {
	out := make(polynomial, len(p))
	for i, a := range p {
		out[i] = a.Neg()
	}
	return out
}

// over takes a number by which all coefficients can be divided.
func (p polynomial) over(by whole.Number) polynomial {
	out := make(polynomial, len(p))
	for i, a := range p {
		out[i] = quotient(a, by)
	}
	return out
}

// lowest is p without what all its coefficients share: a chain would carry that to ever higher powers.
func (p polynomial) lowest() polynomial {
	var shared whole.Number
	for _, a := range p {
		shared = whole.Common(shared, a)
	}
	return p.over(shared)
}

// rest is what is left of a power of the length of q's last coefficient times p by q; p's degree is not below q's. The power is one more than the degrees differ, whatever comes out on the way: chain counts on that.
func (p polynomial) rest(q polynomial) polynomial {
	out := slices.Clone(p)
	size := q.lead().Abs()
	for len(out) >= len(q) {
		top := out.lead()
		if q.lead().Sign() < 0 {
			top = top.Neg()
		}
		out = out[:len(out)-1]
		first := len(out) + 1 - len(q)
		for i, a := range out {
			out[i] = a.Times(size)
			if i >= first {
				out[i] = out[i].Minus(top.Times(q[i-first]))
			}
		}
	}
	return trimmed(out)
}

// chain is Sturm's of two polynomials, not both nought: each one behind them is what is left of the last but one by the last, with the sign turned, times something above nought. It ends with what both share. The divisors are those of the subresultants, which leave no more in the coefficients than must be.
func chain(p, q polynomial) []polynomial {
	if len(q) == 0 {
		return []polynomial{p}
	}
	l := []polynomial{p, q}
	if len(p) < len(q) {
		p, q = q, p.turned()
		if len(q) == 0 {
			return l
		}
		l = append(l, q)
	}
	last, held := whole.Of(1), whole.Of(1)
	for len(q) > 1 {
		rest := p.rest(q).turned()
		if len(rest) == 0 {
			return l
		}
		fall := len(p) - len(q)
		p, q = q, rest.over(last.Times(held.Power(fall)))
		l = append(l, q)
		last = p.lead().Abs()
		if fall > 0 {
			held = quotient(last.Power(fall), held.Power(fall-1))
		}
	}
	return l
}

// changes is twice how often the sign changes in a row of polynomials at x; from and to nought it is half a change.
func changes(l []polynomial, x whole.Number) int {
	n, before := 0, 0
	for i, p := range l {
		sign := p.at(x).Sign()
		if i > 0 {
			n += max(sign-before, before-sign)
		}
		before = sign
	}
	return n
}

// hasZero tells whether p, which is not nought, has a zero from a to b.
func (p polynomial) hasZero(a, b whole.Number) bool {
	if len(p) == 1 {
		return false
	}
	if p.at(a).Sign() == 0 || p.at(b).Sign() == 0 {
		return true
	}
	l := chain(p, p.slope())
	return changes(l, a) != changes(l, b)
}
