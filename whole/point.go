package whole

// Point is a complex number of whole parts.
type Point struct{ Re, Im Number }

// Plus is a and b together.
func (a Point) Plus(b Point) Point { return Point{a.Re.Plus(b.Re), a.Im.Plus(b.Im)} }

// Minus is a less b.
func (a Point) Minus(b Point) Point { return Point{a.Re.Minus(b.Re), a.Im.Minus(b.Im)} }

// Times is a times b.
func (a Point) Times(b Point) Point {
	return Point{
		a.Re.Times(b.Re).Minus(a.Im.Times(b.Im)),
		a.Re.Times(b.Im).Plus(a.Im.Times(b.Re)),
	}
}

// Scale is a times n.
func (a Point) Scale(n Number) Point { return Point{a.Re.Times(n), a.Im.Times(n)} }

// Left is a times 2 to the power of n, which is not below nought.
func (a Point) Left(n int) Point { return Point{a.Re.Left(n), a.Im.Left(n)} }

// Quarter is a times i.
func (a Point) Quarter() Point { return Point{a.Im.Neg(), a.Re} }

// Norm is the square of a's length.
func (a Point) Norm() Number { return a.Re.Times(a.Re).Plus(a.Im.Times(a.Im)) }

// Cross is above nought, if b leads to the left of a, and below, if it leads to the right: twice the area of the triangle between them.
func (a Point) Cross(b Point) Number { return a.Re.Times(b.Im).Minus(a.Im.Times(b.Re)) }

// Grid counts finite complex numbers in units of one power of two, at most 1, in which all of them are whole.
func Grid(l []complex128) (points []Point, unit int) {
	for _, a := range l {
		_, re := OfFloat(real(a))
		_, im := OfFloat(imag(a))
		unit = min(unit, re, im)
	}
	for _, a := range l {
		points = append(points, Point{inUnits(real(a), unit), inUnits(imag(a), unit)})
	}
	return points, unit
}

func inUnits(a float64, unit int) Number {
	n, power := OfFloat(a)
	return n.Left(power - unit)
}

// Stretched are the coefficients, the lowest first, of a polynomial whose places are counted in that unit, which Grid told: the values' new unit is the old one times the unit's highest power, so the first coefficient takes this power, and the last one none.
func Stretched(l []Point, unit int) []Point {
	out := make([]Point, len(l))
	for i, a := range l {
		out[i] = a.Left(-unit * (len(l) - 1 - i))
	}
	return out
}

// Value is that of the polynomial with the coefficients l, the lowest first, at z.
func Value(l []Point, z Point) Point {
	var v Point
	for i := range l {
		v = v.Times(z).Plus(l[len(l)-1-i])
	}
	return v
}
