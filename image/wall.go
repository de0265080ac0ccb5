package image

import (
	"eddy/api"
	"eddy/parts"
)

// wall is a straight line; along is its way, of the length 1.
type wall struct{ at, along complex128 }

// wallAlong is the wall through a place, if both are places and there is a way.
func wallAlong(at, way complex128) (wall, api.Errno) {
	if !isPlace(at) {
		return wall{}, api.ErrReal
	}
	u, e := unit(way)
	return wall{at, u}, e
}

func (w wall) isAbove(z complex128) bool {
	return imag(parts.Mul(parts.Conj(w.along), parts.Sub(z, w.at))) > 0
}

// across mirrors a place in the wall.
func (w wall) across(z complex128) complex128 {
	turn := parts.Mul(w.along, w.along)
	return parts.Add(w.at, parts.Mul(turn, parts.Conj(parts.Sub(z, w.at))))
}

// stream keeps its part along the wall, which needs no image.
func (w wall) stream(x api.Element) (reflection, bool) {
	x.Strength = parts.Scale(parts.Conj(w.along), real(parts.Mul(x.Strength, w.along)))
	return reflection{own: x}, true
}

func (w wall) source(x api.Element) (reflection, bool) {
	return w.mirrored(x, parts.Conj(x.Strength))
}

func (w wall) doublet(x api.Element) (reflection, bool) {
	turn := parts.Whole(w.along, 2*int(x.Power))
	return w.mirrored(x, parts.Mul(parts.Conj(x.Strength), turn))
}

// corner refuses it: no image of it keeps the wall.
func (w wall) corner(api.Element) (reflection, bool) { return reflection{}, false }

// mirrored has one image, with the strength that is told.
func (w wall) mirrored(x api.Element, strength complex128) (reflection, bool) {
	image := x
	image.At, image.Strength = w.across(x.At), strength
	return reflection{x, []api.Element{image}}, w.isAbove(x.At)
}
