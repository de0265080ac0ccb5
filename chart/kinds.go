package chart

import (
	"eddy/api"
	"eddy/parts"
)

// plan is a map whose kind's methods work with it.
type plan api.Map

// deed is one thing that a kind does with a place.
type deed = func(plan, complex128) (complex128, api.Errno)

// What each kind does, in this order.
const (
	at = iota
	slope
	back
	backOther
	deeds
)

// numbers is how many the kinds' numbers are; 0 is no kind's.
const numbers = int(api.MapExp) + 1

// kinds makes the array of what each kind does, at the kind's number.
func kinds() [numbers][deeds]deed {
	return [...][deeds]deed{
		api.MapMoebius:   {plan.moebius, plan.moebiusSlope, plan.moebiusBack, plan.nothing},
		api.MapJoukowski: {plan.joukowski, plan.joukowskiSlope, plan.joukowskiBack, plan.joukowskiOther},
		api.MapPower:     {plan.power, plan.powerSlope, plan.powerBack, plan.powerOther},
		api.MapExp:       {plan.exp, plan.expSlope, plan.expBack, plan.expOther},
	}
}

// musts makes the array of what must be so of each kind's numbers.
func musts() [numbers]func(plan) bool {
	return [...]func(plan) bool{
		api.MapMoebius:   plan.mayMoebius,
		api.MapJoukowski: plan.mayJoukowski,
		api.MapPower:     plan.mayPower,
		api.MapExp:       plan.mayExp,
	}
}

// nothing is the other place of a kind that has but one.
func (m plan) nothing(complex128) (complex128, api.Errno) { return 0, api.ErrBranch }

// over is w over A. By 1 it is w itself: a quotient would lose the sign of a nought, which tells the cut's side.
func (m plan) over(w complex128) complex128 {
	if parts.Like(m.A, 1) {
		return w
	}
	return parts.Div(w, m.A)
}
