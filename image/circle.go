package image

import (
	"eddy/api"
	"eddy/parts"
	"eddy/roots"
)

type circle struct{ api.Circle }

// mayBe tells whether there is such a circle.
func mayBe(c api.Circle) bool {
	return isPlace(c.Centre) && c.Radius >= api.MinReal && c.Radius <= api.MaxReal
}

func (c circle) isOutside(z complex128) bool {
	return roots.Length(parts.Sub(z, c.Centre)) > c.Radius
}

// square is rounded here, lest a machine fuse it with a caller's sum.
func (c circle) square() float64 { return float64(c.Radius * c.Radius) }

// over is a over the mirror image of the way from the centre to z.
func (c circle) over(a, z complex128) complex128 {
	return parts.Div(a, parts.Conj(parts.Sub(z, c.Centre)))
}

// inward is the way from the centre to where the image of z lies.
func (c circle) inward(z complex128) complex128 { return c.over(complex(c.square(), 0), z) }

func (c circle) place(z complex128) complex128 { return parts.Add(c.Centre, c.inward(z)) }

// stream has a doublet as its image: both together go round the circle.
func (c circle) stream(x api.Element) (reflection, bool) {
	strength := parts.Scale(parts.Conj(x.Strength), c.square())
	image := api.Element{Kind: api.Doublet, At: c.Centre, Strength: strength, Power: 1}
	return reflection{x, []api.Element{image}}, true
}

// source has two images: what comes out of one goes into the other, as the circle lets nothing out.
func (c circle) source(x api.Element) (reflection, bool) {
	strength := parts.Conj(x.Strength)
	images := []api.Element{
		{Kind: api.Source, At: c.place(x.At), Strength: strength},
		{Kind: api.Source, At: c.Centre, Strength: parts.Neg(strength)},
	}
	return reflection{x, images}, c.isOutside(x.At)
}

// doublet has as many images as it has folds, all at one place: the circle bends its one power of the distance to a sum of powers.
func (c circle) doublet(x api.Element) (reflection, bool) {
	n := int(x.Power)
	b := c.inward(x.At)
	h := parts.Mul(parts.Conj(x.Strength), parts.Whole(c.over(-1, x.At), n))
	images := make([]api.Element, n)
	choices := 1
	for i := range images {
		k := i + 1
		choices = choices * (n - i) / k // k of n: each step comes out whole
		strength := parts.Scale(parts.Mul(h, parts.Whole(b, k)), float64(choices))
		images[i] = api.Element{Kind: api.Doublet, At: c.place(x.At), Strength: strength, Power: float64(k)}
	}
	return reflection{x, images}, c.isOutside(x.At)
}

// corner refuses it: no image of it keeps the circle.
func (c circle) corner(api.Element) (reflection, bool) { return reflection{}, false }
