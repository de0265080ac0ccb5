package gauss

import (
	"math/bits"

	"eddy/float"
	"eddy/whole"
)

// fraction is always in lowest terms, its bottom above nought.
type fraction struct{ top, bottom whole.Number }

// plus takes out what both bottoms share first: what can be cancelled after that is a part of it, so that no gcd of the long numbers is asked for.
func (a fraction) plus(b fraction) fraction {
	shared := whole.Common(a.bottom, b.bottom)
	rest := quotient(a.bottom, shared)
	top := a.top.Times(quotient(b.bottom, shared)).Plus(b.top.Times(rest))
	again := whole.Common(top, shared)
	return fraction{quotient(top, again), rest.Times(quotient(b.bottom, again))}
}

func (a fraction) minus(b fraction) fraction { return a.plus(b.turned()) }

// times cancels crosswise: each fraction by itself is in lowest terms already.
func (a fraction) times(b fraction) fraction {
	one, other := whole.Common(a.top, b.bottom), whole.Common(b.top, a.bottom)
	return fraction{
		quotient(a.top, one).Times(quotient(b.top, other)),
		quotient(a.bottom, other).Times(quotient(b.bottom, one)),
	}
}

// over takes a b above nought.
func (a fraction) over(b fraction) fraction { return a.times(fraction{b.bottom, b.top}) }

func (a fraction) turned() fraction { return fraction{a.top.Neg(), a.bottom} }

// quotient is a over b where nothing is left over.
func quotient(a, b whole.Number) whole.Number {
	if b.IsOne() {
		return a
	}
	q, _ := a.Over(b)
	return q
}

const (
	keptBits = 53
	leastBit = -1074 // no float has a bit below 2 to this power
)

// near is the nearest float, of two the even one; it is infinite where that is. Two bits beyond those that are kept, the lower one set if anything is lost below, tell all that rounding asks for.
func (a fraction) near() float64 {
	if a.top.Sign() == 0 {
		return 0
	}
	top := a.top.Abs()
	power := max(top.Bits()-a.bottom.Bits()-keptBits-2, leastBit-2)
	q, rest := top.Left(max(-power, 0)).Over(a.bottom.Left(max(power, 0)))
	digits := q.Low()
	if rest.Sign() != 0 {
		digits |= 1
	}
	drop := max(bits.Len64(digits)-keptBits, leastBit-power)
	near := float.Scale(float64(evenly(digits, drop)), power+drop)
	if a.top.Sign() < 0 && near != 0 {
		return -near
	}
	return near
}

// evenly is digits over 2 to the power of drop, which is above nought, rounded to the nearest, of two to the even one.
func evenly(digits uint64, drop int) uint64 {
	kept, half := digits>>drop, uint64(1)<<(drop-1)
	lost := digits - kept<<drop
	if lost > half || lost == half && kept%2 == 1 {
		kept++
	}
	return kept
}

// number is a complex number of fractions.
type number struct{ re, im fraction }

func (a number) plus(b number) number { return number{a.re.plus(b.re), a.im.plus(b.im)} }

func (a number) minus(b number) number { return number{a.re.minus(b.re), a.im.minus(b.im)} }

func (a number) times(b number) number {
	return number{
		a.re.times(b.re).minus(a.im.times(b.im)),
		a.re.times(b.im).plus(a.im.times(b.re)),
	}
}

// over takes a b that is not nought.
func (a number) over(b number) number {
	turned, norm := a.times(b.conj()), b.norm()
	return number{turned.re.over(norm), turned.im.over(norm)}
}

func (a number) conj() number { return number{a.re, a.im.turned()} }

func (a number) norm() fraction { return a.re.times(a.re).plus(a.im.times(a.im)) }

func (a number) isNought() bool { return a.re.top.Sign() == 0 && a.im.top.Sign() == 0 }
