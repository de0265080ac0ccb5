package image_test

import (
	"math"
	"testing"

	"eddy/api"
	"eddy/element"
	"eddy/image"
	"eddy/roots"
)

const (
	span  = 0x1p10 // how far the bounds' places go
	apart = 0x1p-6 // how near they come
)

// worth is from 2^low to 2^high, of any order alike.
func (d *dice) worth(low, high int) float64 {
	return min(math.Ldexp(1+float64(d.word()>>12)*0x1p-52, low+d.below(high-low)), math.Ldexp(1, high))
}

// fair is a strength that the bounds take: its parts are nought or from 2^-20 to 2^20.
func (d *dice) fair() complex128 {
	parts := [2]float64{}
	for i := range parts {
		if d.below(8) > 0 {
			parts[i] = math.Copysign(d.worth(-20, 20), float64(int64(d.word())))
		}
	}
	return complex(parts[0], parts[1])
}

// unit is one of any angle, or along an axis.
func (d *dice) unit() complex128 {
	if d.below(8) == 0 {
		return []complex128{1, -1, 1i, -1i}[d.below(4)]
	}
	u, _ := roots.Unit(complex(d.part(-8, 0), d.part(-8, 0)))
	return u
}

// spot is a place that the bounds take: its parts are at most 2^10.
func (d *dice) spot() complex128 {
	if d.below(4) == 0 {
		return complex(span, span) * []complex128{1, -1, 1i, -1i}[d.below(4)]
	}
	high := d.below(17) - 6
	return complex(d.part(high-8, high), d.part(high-8, high))
}

func isSpot(z complex128) bool { return math.Abs(real(z)) <= span && math.Abs(imag(z)) <= span }

// thing is an element at a place, of any kind that has one, or a Stream.
func (d *dice) thing(at complex128) api.Element {
	switch d.below(6) {
	case 0:
		return stream(d.fair())
	case 1:
		return source(at, d.fair())
	}
	return doublet(at, d.fair(), float64(1+d.below(8)))
}

// leak is how much goes through a border at a place, of what moves there; false, if the place is too near to an element, or too far.
func leak(f api.Flow, z, way complex128) (float64, bool) {
	sum := 0.0
	for _, x := range f.Elements {
		if x.Kind != api.Stream && length(z-x.At) < apart {
			return 0, false
		}
		v, _ := element.Speed(x, z)
		sum += length(v)
	}
	through, e := image.Through(f, list{z}, list{way})
	if e != api.OK || !isSpot(z) {
		return 0, false
	}
	if through == 0 {
		return 0, true
	}
	return through / sum, true
}

func TestP17_6Wall(t *testing.T) {
	d := newDice()
	asked, worst := 0, 0.0
	for range 60000 {
		at, u := d.spot(), d.unit()
		foot := at + u*complex(d.part(-6, 9), 0) // elements lie about it, so that some are near
		f := d.flow(1+d.below(4), func() api.Element {
			z := foot + u*complex(d.part(-8, 4), d.worth(-9, 6))
			if d.below(3) == 0 || !isSpot(z) {
				z = d.spot()
			}
			return above(d.thing(z), at, u)
		})
		g, e := image.Wall(f, at, scale(u, d.worth(-30, 30)))
		if e != api.OK || !allSpots(f) {
			continue
		}
		for range 4 {
			far := math.Copysign(d.worth(-6, 9), float64(int64(d.word())))
			z := at + scale(u, far)
			if d.below(2) == 0 {
				z = foot + scale(u, d.part(-7, 1))
				z = at + scale(u, real(conj(u)*(z-at)))
			}
			if length(z-at) > 0x1p9 {
				continue
			}
			if l, ok := leak(g, z, u); ok {
				asked, worst = asked+1, max(worst, l)
			}
		}
	}
	if asked < 50000 || !(worst <= 0x1p-26) {
		t.Errorf("asked %d times, the worst is %x", asked, worst)
	}
}

func allSpots(f api.Flow) bool {
	for _, x := range f.Elements {
		if !isSpot(x.At) {
			return false
		}
	}
	return true
}

func TestP17_6Circle(t *testing.T) {
	d := newDice()
	asked, worst := 0, 0.0
	for range 60000 {
		c := about(d.spot(), d.worth(-6, 10))
		if d.below(4) == 0 {
			c.Radius = []float64{apart, span}[d.below(2)]
		}
		edge := d.unit()
		f := d.flow(1+d.below(4), func() api.Element {
			z := c.Centre + scale(edge*d.unit(), (c.Radius+apart)*(1+d.worth(-40, 6)))
			if d.below(2) == 0 {
				z = c.Centre + scale(edge, c.Radius+apart*(1+d.worth(-40, 3)))
			}
			return d.thing(z)
		})
		g, e := image.Circle(f, c)
		if e != api.OK || !allSpots(f) || !allApart(f, c) {
			continue
		}
		for range 4 {
			u := d.unit()
			if d.below(2) == 0 { // near the elements
				u, _ = roots.Unit(edge + complex(d.part(-12, 0), d.part(-12, 0)))
			}
			if l, ok := leak(g, c.Centre+scale(u, c.Radius), u*1i); ok {
				asked, worst = asked+1, max(worst, l)
			}
		}
	}
	if asked < 50000 || !(worst <= 0x1p-26) {
		t.Errorf("asked %d times, the worst is %x", asked, worst)
	}
}

func allApart(f api.Flow, c api.Circle) bool {
	for _, x := range f.Elements {
		if x.Kind != api.Stream && length(x.At-c.Centre) < c.Radius+apart {
			return false
		}
	}
	return true
}

// Without its images a flow goes through: the bounds above tell something.
func TestP17_6Without(t *testing.T) {
	d := newDice()
	for range 2000 {
		f := d.flow(1, func() api.Element { return doublet(2+3i, d.fair(), float64(1+d.below(8))) })
		through, _ := image.Through(f, list{0.5, 0.25, 1.75}, list{1, 1, 1})
		g, _ := image.Wall(f, 0, 1)
		less, _ := image.Through(g, list{0.5, 0.25, 1.75}, list{1, 1, 1})
		if like(f.Elements[0].Strength, 0) {
			continue
		}
		if !(through > 0 && less <= 0x1p-40*through) {
			t.Errorf("Through of %v: %x, with its image %x", f, through, less)
		}
	}
}

func TestP17_7AcrossAndBack(t *testing.T) {
	d := newDice()
	for range 60000 {
		at, way, z := d.spot(), scale(d.unit(), d.worth(-30, 30)), d.spot()
		w, e := image.Across(at, way, z)
		back, g := image.Across(at, way, w)
		if e != api.OK || g != api.OK || !(length(back-z) <= 0x1p-36) {
			t.Errorf("Across from %x, the wall at %x along %x: %x, %d, and back %x, %d", z, at, way, w, int(e), back, int(g))
		}
	}
}

func TestP17_7PlaceAndBack(t *testing.T) {
	d := newDice()
	asked := 0
	for range 100000 {
		c, z := about(d.spot(), d.worth(-6, 10)), d.spot()
		switch d.below(3) {
		case 0:
			z = c.Centre + scale(d.unit(), apart*(1+d.worth(-30, 2)))
		case 1:
			z = c.Centre + scale(d.unit(), c.Radius*(1+d.worth(-30, 1)))
		}
		w, e := image.Place(c, z)
		if !isSpot(z) || length(z-c.Centre) < apart || length(w-c.Centre) < apart {
			continue
		}
		asked++
		back, g := image.Place(c, w)
		if e != api.OK || g != api.OK || !(length(back-z) <= 0x1p-20) {
			t.Errorf("Place of %x in %x: %x, %d, and back %x, %d", z, c, w, int(e), back, int(g))
		}
	}
	if asked < 40000 {
		t.Errorf("only %d", asked)
	}
}

func TestP17_8Streams(t *testing.T) {
	d := newDice()
	for range 2000 {
		n := d.below(6)
		f := d.flow(n, func() api.Element { return stream(d.fair()) })
		g, e := image.Wall(f, d.spot(), d.unit())
		if e != api.OK || len(g.Elements) != n || !allStreams(g) {
			t.Errorf("Wall of %v: %v, %d", f, g, int(e))
		}
		h, e := image.Circle(f, about(d.spot(), d.worth(-6, 10)))
		if e != api.OK || len(h.Elements) != 2*n || !sameFlows(of(h.Elements[:n]...), f) {
			t.Errorf("Circle of %v: %v, %d", f, h, int(e))
		}
	}
	g, e := image.Wall(repeated(many, stream(1i)), 1, 1i)
	if e != api.OK || len(g.Elements) != many || !allStreams(g) {
		t.Errorf("Wall of many: %d, %d", len(g.Elements), int(e))
	}
	h, e := image.Circle(repeated(many/2, stream(1i)), about(1, 1))
	if e != api.OK || len(h.Elements) != many {
		t.Errorf("Circle of many: %d, %d", len(h.Elements), int(e))
	}
}

func allStreams(f api.Flow) bool {
	for _, x := range f.Elements {
		if x.Kind != api.Stream {
			return false
		}
	}
	return true
}

func TestP17_8None(t *testing.T) {
	for _, f := range []api.Flow{{}, {Elements: []api.Element{}}} {
		for _, z := range append(append(list{1 - 2i}, noughts...), edgePlaces...) {
			wantWall(t, f, z, 1, of(), api.OK)
			wantWall(t, f, z, -1+2i, of(), api.OK)
			wantCircle(t, f, about(z, 1), of(), api.OK)
			wantCircle(t, f, about(z, nearest), of(), api.OK)
			wantCircle(t, f, about(z, farthest), of(), api.OK)
		}
	}
}
