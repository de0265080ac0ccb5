package flow

import (
	"slices"

	"eddy/angle"
	"eddy/api"
	"eddy/parts"
	"eddy/poly"
)

// Fraction is the speed as a fraction of polynomials, if there is no corner of a broken power.
func Fraction(f api.Flow) (api.Fraction, bool, api.Errno) {
	if e := Check(f); e != api.OK {
		return api.Fraction{}, false, e
	}
	if hasBroken(f.Elements) {
		return api.Fraction{}, false, api.OK
	}
	c, e := commonOf(f.Elements)
	if e != api.OK {
		return api.Fraction{}, false, e
	}
	top := []complex128{0}
	for _, x := range f.Elements {
		part, e := c.part(x)
		if e != api.OK {
			return api.Fraction{}, false, e
		}
		if top, e = poly.Add(top, part); e != api.OK {
			return api.Fraction{}, false, e
		}
	}
	return api.Fraction{Top: top, Bottom: c.bottom}, true, api.OK
}

// hasBroken tells whether there is a corner whose speed is no polynomial.
func hasBroken(l []api.Element) bool {
	for _, x := range l {
		if x.Kind == api.Corner && !isWhole(x.Power) {
			return true
		}
	}
	return false
}

// isWhole tells it of a Corner's power.
func isWhole(p float64) bool { return p == float64(int(p)) }

// common is the bottom that all elements' speeds are brought to.
type common struct {
	places []complex128 // of the sources and doublets, each once
	folds  []int        // how often each one is a root
	bottom []complex128
}

func commonOf(l []api.Element) (common, api.Errno) {
	var c common
	for _, x := range l {
		if n := fold(x); n > 0 {
			c.take(x.At, n)
		}
	}
	var e api.Errno
	c.bottom, e = poly.Of(c.roots())
	return c, e
}

// fold is how often the place of an element is a root of its speed's bottom.
func fold(x api.Element) int {
	switch x.Kind {
	case api.Source:
		return 1
	case api.Doublet:
		return int(x.Power) + 1
	}
	return 0
}

// take makes a place a root at least n times.
func (c *common) take(at complex128, n int) {
	k := find(c.places, at)
	if k < 0 {
		c.places, c.folds = append(c.places, at), append(c.folds, n)
		return
	}
	c.folds[k] = max(c.folds[k], n)
}

func (c common) roots() []complex128 {
	var l []complex128
	for k, at := range c.places {
		l = append(l, repeated(at, c.folds[k])...)
	}
	return l
}

// part is the top of an element's speed, over the common bottom.
func (c common) part(x api.Element) ([]complex128, api.Errno) {
	switch x.Kind {
	case api.Stream:
		return poly.Mul([]complex128{x.Strength}, c.bottom)
	case api.Source:
		high, _ := angle.Pi()
		return times(parts.Scale(x.Strength, 1/(2*high)), c.without(x))
	case api.Doublet:
		return times(parts.Scale(x.Strength, -x.Power), c.without(x))
	}
	own, e := times(parts.Scale(x.Strength, x.Power), repeated(x.At, int(x.Power)-1))
	if e != api.OK {
		return nil, e
	}
	return poly.Mul(own, c.bottom)
}

// without are the roots but for those that the element itself asks for.
func (c common) without(x api.Element) []complex128 {
	folds := slices.Clone(c.folds)
	folds[find(c.places, x.At)] -= fold(x)
	return common{places: c.places, folds: folds}.roots()
}

// times is so many times the polynomial of these zeros.
func times(s complex128, zeros []complex128) ([]complex128, api.Errno) {
	l, e := poly.Of(zeros)
	if e != api.OK {
		return nil, e
	}
	return poly.Mul([]complex128{s}, l)
}

// repeated is a place so many times.
func repeated(at complex128, n int) []complex128 {
	l := make([]complex128, n)
	for i := range l {
		l[i] = at
	}
	return l
}
