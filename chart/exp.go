package chart

import (
	"eddy/api"
	"eddy/parts"
	"eddy/power"
)

func (m plan) mayExp() bool {
	return !isNought(m.A) && !isNought(m.B) && isNought(m.C) && isNought(m.D) && m.Power == 0
}

func (m plan) exp(z complex128) (complex128, api.Errno) {
	return parts.Mul(m.A, power.Exp(parts.Mul(m.B, z))), api.OK
}

func (m plan) expSlope(z complex128) (complex128, api.Errno) {
	return parts.Mul(parts.Mul(m.A, m.B), power.Exp(parts.Mul(m.B, z))), api.OK
}

func (m plan) expBack(w complex128) (complex128, api.Errno) {
	u := m.over(w)
	if isNought(u) {
		return 0, api.ErrBranch
	}
	return parts.Div(power.Log(u), m.B), api.OK
}

// expOther is the place one circle on: nothing but what has a finite logarithm has one.
func (m plan) expOther(w complex128) (complex128, api.Errno) {
	u := m.over(w)
	if isNought(u) {
		return 0, api.ErrBranch
	}
	log, is := power.Sheet(u, 1)
	if !is {
		return 0, api.ErrPlace
	}
	return parts.Div(log, m.B), api.OK
}
