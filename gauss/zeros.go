package gauss

import (
	"eddy/api"
	"eddy/float"
	"eddy/parts"
	"eddy/whole"
)

// mostCoefficients is how many Zeros takes.
const mostCoefficients = 17

// Zeros is how many zeros the polynomial with the coefficients l has inside the box, each as often as it is one.
func Zeros(l []complex128, b api.Box) (int, api.Errno) {
	if e := checkCoefficients(l); e != api.OK {
		return 0, e
	}
	if e := checkBox(b); e != api.OK {
		return 0, e
	}
	corners, unit := whole.Grid([]complex128{b.Low, b.High})
	for parts.Like(l[len(l)-1], 0) {
		l = l[:len(l)-1]
	}
	coefficients, _ := whole.Grid(l)
	return zerosInside(whole.Stretched(coefficients, unit), corners[0], corners[1])
}

func checkCoefficients(l []complex128) api.Errno {
	if len(l) == 0 || len(l) > mostCoefficients {
		return api.ErrMany
	}
	some := false
	for _, a := range l {
		if !isMiddling(real(a)) || !isMiddling(imag(a)) {
			return api.ErrReal
		}
		some = some || !parts.Like(a, 0)
	}
	if !some {
		return api.ErrPoly
	}
	return api.OK
}

func checkBox(b api.Box) api.Errno {
	for _, a := range []complex128{b.Low, b.High} {
		if !isMiddling(real(a)) || !isMiddling(imag(a)) {
			return api.ErrReal
		}
	}
	if !(real(b.Low) < real(b.High)) || !(imag(b.Low) < imag(b.High)) {
		return api.ErrBox
	}
	return api.OK
}

func isMiddling(a float64) bool {
	return a == 0 || float.Within(a, api.MaxReal) && !float.Within(a, float.Down(api.MinReal))
}

// side is a side of a box, gone along to the right or upward.
type side struct {
	start    whole.Point // a place on its line, where the imaginary or the real part is nought
	upward   bool
	from, to whole.Number
	way      int // -1, if a way round the box to the left goes along it backward
}

func sidesOf(low, high whole.Point) []side {
	return []side{
		{whole.Point{Im: low.Im}, false, low.Re, high.Re, 1},
		{whole.Point{Re: high.Re}, true, low.Im, high.Im, 1},
		{whole.Point{Im: high.Im}, false, low.Re, high.Re, -1},
		{whole.Point{Re: low.Re}, true, low.Im, high.Im, -1},
	}
}

// zerosInside is how often the polynomial's values go round nought while the place goes round the box. Along a side the values' parts are real polynomials; how often their quotient jumps from below to above all bounds, less how often back, their chain tells, by its sign changes at both ends (half a jump, where it is at an end). Twice round it is for each turn.
func zerosInside(l []whole.Point, low, high whole.Point) (int, api.Errno) {
	fourfold := 0
	for _, s := range sidesOf(low, high) {
		re, im := s.partsAlong(l)
		links := chain(im, re)
		if links[len(links)-1].hasZero(s.from, s.to) {
			return 0, api.ErrBorder
		}
		fourfold += s.way * (changes(links, s.from) - changes(links, s.to))
	}
	return fourfold / 4, api.OK
}

// partsAlong are the real and the imaginary part of the polynomial's values along the side's line.
func (s side) partsAlong(l []whole.Point) (re, im polynomial) {
	for i, a := range shifted(l, s.start) {
		if s.upward {
			for range i % 4 {
				a = a.Quarter()
			}
		}
		re, im = append(re, a.Re), append(im, a.Im)
	}
	return trimmed(re).lowest(), trimmed(im).lowest()
}

// shifted are the coefficients of the polynomial at by + z.
func shifted(l []whole.Point, by whole.Point) []whole.Point {
	out := make([]whole.Point, len(l))
	copy(out, l)
	for i := range out {
		for j := len(out) - 2; j >= i; j-- {
			out[j] = out[j].Plus(out[j+1].Times(by))
		}
	}
	return out
}
