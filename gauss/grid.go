package gauss

import "eddy/whole"

// point is a complex number of whole parts.
type point struct{ re, im whole.Number }

func (a point) plus(b point) point { return point{a.re.Plus(b.re), a.im.Plus(b.im)} }

func (a point) times(b point) point {
	return point{
		a.re.Times(b.re).Minus(a.im.Times(b.im)),
		a.re.Times(b.im).Plus(a.im.Times(b.re)),
	}
}

func (a point) left(n int) point { return point{a.re.Left(n), a.im.Left(n)} }

// quarter is a times i.
func (a point) quarter() point { return point{a.im.Neg(), a.re} }

// gridOf counts finite complex numbers in units of one power of two, at most 1, in which all of them are whole.
func gridOf(l []complex128) (points []point, unit int) {
	for _, a := range l {
		_, re := whole.OfFloat(real(a))
		_, im := whole.OfFloat(imag(a))
		unit = min(unit, re, im)
	}
	for _, a := range l {
		points = append(points, point{inUnits(real(a), unit), inUnits(imag(a), unit)})
	}
	return points, unit
}

func inUnits(a float64, unit int) whole.Number {
	n, power := whole.OfFloat(a)
	return n.Left(power - unit)
}

// stretched are the coefficients of a polynomial whose places are counted in that unit: the first one, as the values' new unit, takes the unit's highest power.
func stretched(l []point, unit int) []point {
	out := make([]point, len(l))
	for i, a := range l {
		out[i] = a.left(-unit * (len(l) - 1 - i))
	}
	return out
}
