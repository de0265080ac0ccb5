package chart

import (
	"eddy/api"
	"eddy/parts"
	"eddy/roots"
)

func (m plan) mayJoukowski() bool {
	return !isNought(m.A) && isNought(m.B) && isNought(m.C) && isNought(m.D) && m.Power == 0
}

func (m plan) square() complex128 { return parts.Mul(m.A, m.A) }

func (m plan) joukowski(z complex128) (complex128, api.Errno) {
	if isNought(z) {
		return 0, api.ErrPlace
	}
	return parts.Add(z, parts.Div(m.square(), z)), api.OK
}

func (m plan) joukowskiSlope(z complex128) (complex128, api.Errno) {
	if isNought(z) {
		return 0, api.ErrPlace
	}
	return parts.Sub(1, parts.Div(m.square(), parts.Whole(z, 2))), api.OK
}

func (m plan) joukowskiBack(w complex128) (complex128, api.Errno) { return m.outer(w), api.OK }

func (m plan) joukowskiOther(w complex128) (complex128, api.Errno) {
	return parts.Div(m.square(), m.outer(w)), api.OK
}

// outer is the one of the two places that come to w which lies farther out: the root goes the same way as w.
func (m plan) outer(w complex128) complex128 {
	f := parts.Scale(m.A, 2)
	s := parts.Mul(roots.Root(parts.Sub(w, f)), roots.Root(parts.Add(w, f)))
	if float64(real(w)*real(s))+float64(imag(w)*imag(s)) < 0 {
		s = parts.Neg(s)
	}
	return parts.Scale(parts.Add(w, s), 0.5)
}
