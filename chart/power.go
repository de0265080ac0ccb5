package chart

import (
	"math"

	"eddy/angle"
	"eddy/api"
	"eddy/parts"
	"eddy/power"
)

// The powers that a map may have.
const (
	leastPower    = 0.25
	greatestPower = 4
)

func (m plan) mayPower() bool {
	return !isNought(m.A) && isNought(m.C) && isNought(m.D) && m.Power >= leastPower && m.Power <= greatestPower
}

func (m plan) isWhole() bool { return m.Power == math.Floor(m.Power) }

func (m plan) power(z complex128) (complex128, api.Errno) {
	d := parts.Sub(z, m.B)
	switch {
	case m.isWhole():
		return parts.Mul(m.A, parts.Whole(d, int(m.Power))), api.OK
	case isNought(d):
		return 0, api.OK
	}
	return parts.Mul(m.A, power.Real(d, m.Power)), api.OK
}

func (m plan) powerSlope(z complex128) (complex128, api.Errno) {
	d, s := parts.Sub(z, m.B), parts.Scale(m.A, m.Power)
	switch {
	case m.isWhole():
		return parts.Mul(s, parts.Whole(d, int(m.Power)-1)), api.OK
	case isNought(d) && m.Power < 1:
		return 0, api.ErrPlace
	case isNought(d):
		return 0, api.OK
	}
	return parts.Mul(s, power.Real(d, m.Power-1)), api.OK
}

func (m plan) powerBack(w complex128) (complex128, api.Errno) {
	e, wrong := m.root(w)
	return parts.Add(m.B, e), wrong
}

// powerOther is a square's other place; the other powers have but one that is told.
func (m plan) powerOther(w complex128) (complex128, api.Errno) {
	if m.Power != 2 {
		return m.nothing(w)
	}
	e, wrong := m.root(w)
	return parts.Sub(m.B, e), wrong
}

// root is how far from B the place lies that comes to w.
func (m plan) root(w complex128) (complex128, api.Errno) {
	u := m.over(w)
	switch {
	case m.Power == 1:
		return u, api.OK
	case isNought(u):
		return 0, api.OK
	case m.Power < 1 && m.isBeyond(u):
		return 0, api.ErrBranch
	}
	return power.Real(u, 1/m.Power), api.OK
}

// isBeyond tells whether u lies outside of the wedge to which a power below 1 folds the plane.
func (m plan) isBeyond(u complex128) bool {
	high, _ := angle.Pi()
	return math.Abs(angle.Of(imag(u), real(u))) > float64(m.Power*high)
}
