package path

import "eddy/whole"

// side is the sign of the cross of what leads from a to b, and from a to z. Counted in one small unit all three are whole numbers, of which nothing is lost.
func side(a, b, z complex128) int {
	l, _ := whole.Grid([]complex128{a, b, z})
	return l[1].Minus(l[0]).Cross(l[2].Minus(l[0])).Sign()
}

// liesOn tells whether z lies on the side from a to b, the ends too. The parts are asked first, as floats tell those exactly and soon.
func liesOn(a, b, z complex128) bool {
	return isBetween(real(a), real(b), real(z)) && isBetween(imag(a), imag(b), imag(z)) && side(a, b, z) == 0
}

func isBetween(a, b, x float64) bool { return min(a, b) <= x && x <= max(a, b) }

// passing is how the side from a to b, on which z does not lie, goes over the way that leads from z straight to the right: 1 up, -1 down, 0 not. A side has its lower end there and not its upper one: so two that meet at z's level count once, or not at all, and a level one never.
func passing(a, b, z complex128) int {
	switch {
	case imag(a) <= imag(z) && imag(z) < imag(b) && side(a, b, z) > 0:
		return 1
	case imag(b) <= imag(z) && imag(z) < imag(a) && side(a, b, z) < 0:
		return -1
	}
	return 0
}
