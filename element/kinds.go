package element

import (
	"eddy/angle"
	"eddy/api"
	"eddy/float"
	"eddy/parts"
	"eddy/power"
)

// kind is an element as the kind that it names. Where it has no value at a place, its formulas come to what is not finite.
type kind interface {
	may() bool // whether a Power, an At of this kind may be such
	potential(z complex128) complex128
	speed(z complex128) complex128
	slope(z complex128) complex128
}

type (
	stream  struct{ api.Element }
	source  struct{ api.Element }
	doublet struct{ api.Element }
	corner  struct{ api.Element }
)

func kindOf(x api.Element) (kind, bool) {
	switch x.Kind {
	case api.Stream:
		return stream{x}, true
	case api.Source:
		return source{x}, true
	case api.Doublet:
		return doublet{x}, true
	case api.Corner:
		return corner{x}, true
	}
	return nil, false
}

// nature tells whether an element lies somewhere, and whether it has no value there.
func nature(k kind) (lies, single bool) {
	switch k := k.(type) {
	case stream:
		return false, false
	case corner:
		return true, k.Power < 1
	}
	return true, true
}

func (x stream) may() bool { return isNought(x.At) && x.Power == 0 }

// potential takes the place as it is: a difference from At would lose noughts' signs.
func (x stream) potential(z complex128) complex128 { return parts.Mul(x.Strength, z) }

func (x stream) speed(complex128) complex128 { return x.Strength }

func (x stream) slope(complex128) complex128 { return 0 }

func (x source) may() bool { return x.Power == 0 }

func (x source) potential(z complex128) complex128 {
	return parts.Mul(x.spread(), power.Log(parts.Sub(z, x.At)))
}

func (x source) speed(z complex128) complex128 {
	return parts.Div(x.spread(), parts.Sub(z, x.At))
}

func (x source) slope(z complex128) complex128 {
	return parts.Div(parts.Neg(x.spread()), parts.Whole(parts.Sub(z, x.At), 2))
}

// spread is the strength over a whole circle.
func (x source) spread() complex128 {
	high, _ := angle.Pi()
	return parts.Scale(x.Strength, 1/(2*high))
}

func (x doublet) may() bool { return isWhole(x.Power) && x.Power >= 1 && x.Power <= 8 }

func (x doublet) potential(z complex128) complex128 { return x.term(z, 1, 0) }

func (x doublet) speed(z complex128) complex128 { return x.term(z, -x.Power, 1) }

func (x doublet) slope(z complex128) complex128 { return x.term(z, x.Power*(x.Power+1), 2) }

// term is so many times the strength over the distance, to a power that is so much more than the doublet's.
func (x doublet) term(z complex128, times float64, more int) complex128 {
	d := parts.Sub(z, x.At)
	return parts.Div(parts.Scale(x.Strength, times), parts.Whole(d, int(x.Power)+more))
}

func (x corner) may() bool { return x.Power >= 0.25 && x.Power <= 4 }

func (x corner) potential(z complex128) complex128 { return x.term(z, 1, x.Power) }

func (x corner) speed(z complex128) complex128 { return x.term(z, x.Power, x.Power-1) }

func (x corner) slope(z complex128) complex128 {
	if x.Power == 1 {
		return 0
	}
	return x.term(z, x.Power*(x.Power-1), x.Power-2)
}

// term is so many times the strength times a power of the distance, which is whole where the corner's is.
func (x corner) term(z complex128, times, p float64) complex128 {
	d := parts.Sub(z, x.At)
	s := parts.Scale(x.Strength, times)
	switch {
	case isWhole(x.Power):
		return parts.Mul(s, parts.Whole(d, int(p)))
	case isNought(d) && p > 0:
		return 0 // by way of the logarithm noughts would come with signs
	}
	return parts.Mul(s, power.Real(d, p))
}

func isWhole(p float64) bool { return float.Whole(p) == p }

// isNought tells whether both parts are nought, of either sign.
func isNought(a complex128) bool { return parts.Like(a, 0) }
