package schwarz

import (
	"eddy/angle"
	"eddy/api"
	"eddy/parts"
	"eddy/power"
)

// Strip is the map of the upper half plane to a strip.
func Strip(z complex128, high float64) (complex128, api.Errno) {
	if !areStrips(z, high) {
		return 0, api.ErrReal
	}
	if imag(z) < 0 || isNought(z) {
		return 0, api.ErrPlace
	}
	return parts.Scale(power.Log(upper(z)), high/half()), api.OK
}

// Back is the place of the half plane that comes to w of the strip.
func Back(w complex128, high float64) (complex128, api.Errno) {
	if !areStrips(w, high) {
		return 0, api.ErrReal
	}
	if imag(w) < 0 || imag(w) > high {
		return 0, api.ErrPlace
	}
	return told(power.Exp(parts.Scale(w, half()/high)))
}

// areStrips tells whether a place is one, and a strip may be so high.
func areStrips(z complex128, high float64) bool {
	return parts.Within(z, api.MaxReal) && high >= api.MinReal && high <= api.MaxReal
}

// isNought takes noughts of either sign.
func isNought(z complex128) bool { return real(z) == 0 && imag(z) == 0 }

// half is the half circle that a strip's height comes of, by the higher one of both floats that Pi is told by.
func half() float64 {
	high, _ := angle.Pi()
	return high
}
