package image_test

import (
	"math"
	"testing"

	"eddy/api"
	"eddy/image"
)

type list = []complex128

const (
	least    = 0x1p-1074
	greatest = math.MaxFloat64
	farthest = 0x1p40
	nearest  = 0x1p-40 // the least Radius
	half     = math.Pi // the higher one of both floats that Pi is told by
	many     = 256     // the most elements of a flow
	points   = 1 << 12 // the most places asked for
)

var (
	minusNought = math.Copysign(0, -1)
	infinite    = math.Inf(1)
	none        = math.NaN()
	beyond      = math.Nextafter(farthest, infinite)
	noughts     = list{0, complex(minusNought, 0), complex(0, minusNought), complex(minusNought, minusNought)}
	// noPlaces are no places, each by one part at least; edgePlaces are some, though just so.
	noPlaces   = list{complex(none, 0), complex(0, none), complex(infinite, 1), complex(1, -infinite), complex(beyond, 0), complex(0, -beyond), complex(none, none)}
	edgePlaces = list{farthest, -farthest, complex(0, farthest), complex(0, -farthest), complex(farthest, -farthest)}
)

func of(l ...api.Element) api.Flow { return api.Flow{Elements: l} }

func stream(s complex128) api.Element { return api.Element{Kind: api.Stream, Strength: s} }

func source(at, s complex128) api.Element {
	return api.Element{Kind: api.Source, At: at, Strength: s}
}

func doublet(at, s complex128, n float64) api.Element {
	return api.Element{Kind: api.Doublet, At: at, Strength: s, Power: n}
}

func corner(at, s complex128, p float64) api.Element {
	return api.Element{Kind: api.Corner, At: at, Strength: s, Power: p}
}

func about(o complex128, radius float64) api.Circle { return api.Circle{Centre: o, Radius: radius} }

// repeated are so many, all alike.
func repeated(n int, x api.Element) api.Flow {
	var f api.Flow
	for range n {
		f.Elements = append(f.Elements, x)
	}
	return f
}

// joined are the elements of several flows, one flow behind the other.
func joined(flows ...api.Flow) (out api.Flow) {
	for _, f := range flows {
		out.Elements = append(out.Elements, f.Elements...)
	}
	return out
}

// filled is so many times a.
func filled(n int, a complex128) list {
	l := make(list, n)
	for i := range l {
		l[i] = a
	}
	return l
}

// dice tells words, the same ones at each run.
type dice uint64

func newDice() *dice {
	d := dice(0x9e3779b97f4a7c15)
	return &d
}

func (d *dice) word() uint64 {
	x := *d
	x ^= x << 13
	x ^= x >> 7
	x ^= x << 17
	*d = x
	return uint64(x)
}

func (d *dice) below(n int) int { return int(d.word() % uint64(n)) }

// part is a float of either sign, from 2^low to below 2^high in worth.
func (d *dice) part(low, high int) float64 {
	sign := float64(int64(d.word()))
	x := math.Ldexp(1+float64(d.word()>>12)*0x1p-52, low+d.below(high-low))
	return math.Copysign(x, sign)
}

func (d *dice) whole(reach int) float64 { return float64(d.below(2*reach+1) - reach) }

func (d *dice) wholes(reach int) complex128 { return complex(d.whole(reach), d.whole(reach)) }

func (d *dice) nought() complex128 { return noughts[d.below(4)] }

// real is one of any kind of worth that a place's part may have.
func (d *dice) real() float64 {
	switch d.below(6) {
	case 0:
		l := []float64{0, minusNought, 1, -1, farthest, -farthest, least, 0x1p-1022, 0x1p-40, -0x1p-200, half}
		return l[d.below(len(l))]
	case 1:
		return d.part(-1074, 40)
	case 2:
		return d.whole(4)
	}
	return d.part(-3, 3)
}

func (d *dice) number() complex128 { return complex(d.real(), d.real()) }

// place is one of few, or any one.
func (d *dice) place() complex128 {
	switch d.below(8) {
	case 0:
		return d.nought()
	case 1:
		return d.number()
	case 2:
		return d.wholes(3)
	}
	return complex(d.part(-3, 3), d.part(-3, 3))
}

// way is a place, too, seldom nought.
func (d *dice) way() complex128 {
	switch d.below(12) {
	case 0:
		return d.number()
	case 1:
		return complex(d.part(-1074, 40), d.part(-1074, 40))
	case 2, 3:
		return []complex128{1, -1, 1i, -1i, complex(1, minusNought), complex(minusNought, 2), 3 + 4i, 1 - 1i}[d.below(8)]
	}
	return complex(d.part(-3, 3), d.part(-3, 3))
}

func (d *dice) circle() api.Circle {
	switch d.below(8) {
	case 0:
		return about(d.place(), math.Abs(d.part(-40, 40)))
	case 1:
		return about(d.wholes(2), []float64{nearest, farthest, 0.5, 1, 2, 5}[d.below(6)])
	}
	return about(d.place(), math.Abs(d.part(-3, 3)))
}

// strength is seldom so great that its images may not be.
func (d *dice) strength() complex128 {
	switch d.below(8) {
	case 0:
		return d.number()
	case 1:
		return d.wholes(3)
	}
	return complex(d.part(-4, 4), d.part(-4, 4))
}

// element is one that may be beside a border, wherever that is: no Corner.
func (d *dice) element() api.Element {
	s := d.strength()
	switch d.below(6) {
	case 0:
		return api.Element{Kind: api.Stream, At: d.nought(), Strength: s, Power: real(d.nought())}
	case 1, 2:
		return api.Element{Kind: api.Source, At: d.place(), Strength: s, Power: real(d.nought())}
	}
	return doublet(d.place(), s, float64(1+min(d.below(8), d.below(8))))
}

func (d *dice) corner() api.Element {
	return corner(d.place(), d.strength(), []float64{0.25, 0.5, 1, 1.5, 2, 3, 4}[d.below(7)])
}

// flow is so many of those that throw tells.
func (d *dice) flow(n int, throw func() api.Element) api.Flow {
	f := api.Flow{}
	for range n {
		f.Elements = append(f.Elements, throw())
	}
	return f
}

func sameFloats(a, b float64) bool {
	return math.IsNaN(a) && math.IsNaN(b) || math.Float64bits(a) == math.Float64bits(b)
}

func same(a, b complex128) bool {
	return sameFloats(real(a), real(b)) && sameFloats(imag(a), imag(b))
}

func sameLists(a, b list) bool {
	if len(a) != len(b) {
		return false
	}
	for i := range a {
		if !same(a[i], b[i]) {
			return false
		}
	}
	return true
}

func sameElements(a, b api.Element) bool {
	return a.Kind == b.Kind && same(a.At, b.At) && same(a.Strength, b.Strength) && sameFloats(a.Power, b.Power)
}

func sameFlows(f, g api.Flow) bool {
	if len(f.Elements) != len(g.Elements) {
		return false
	}
	for i := range f.Elements {
		if !sameElements(f.Elements[i], g.Elements[i]) {
			return false
		}
	}
	return true
}

// like is for finite numbers: noughts alike.
func like(a, b complex128) bool { return real(a) == real(b) && imag(a) == imag(b) }

func isFinite(a complex128) bool {
	return math.Abs(real(a)) <= greatest && math.Abs(imag(a)) <= greatest
}

func length(a complex128) float64 { return math.Hypot(real(a), imag(a)) }

// begins is all that there is room to tell of a flow.
func begins(f api.Flow) []api.Element { return f.Elements[:min(8, len(f.Elements))] }

// wantWall tells where Wall answers otherwise than it ought to; refused, it ought to have no list at all.
func wantWall(t *testing.T, f api.Flow, at, way complex128, ought api.Flow, refusal api.Errno) {
	t.Helper()
	got, e := image.Wall(f, at, way)
	if e != refusal || !sameFlows(got, ought) || e != api.OK && got.Elements != nil {
		t.Errorf("Wall of %x at %x along %x: %x, %d, not %x, %d", begins(f), at, way, begins(got), int(e), begins(ought), int(refusal))
	}
}

func wantCircle(t *testing.T, f api.Flow, c api.Circle, ought api.Flow, refusal api.Errno) {
	t.Helper()
	got, e := image.Circle(f, c)
	if e != refusal || !sameFlows(got, ought) || e != api.OK && got.Elements != nil {
		t.Errorf("Circle of %x, %x: %x, %d, not %x, %d", begins(f), c, begins(got), int(e), begins(ought), int(refusal))
	}
}

func wantPlace(t *testing.T, c api.Circle, z, ought complex128, refusal api.Errno) {
	t.Helper()
	if got, e := image.Place(c, z); e != refusal || !same(got, ought) {
		t.Errorf("Place of %x in %x: %x, %d, not %x, %d", z, c, got, int(e), ought, int(refusal))
	}
}

func wantAcross(t *testing.T, at, way, z, ought complex128, refusal api.Errno) {
	t.Helper()
	if got, e := image.Across(at, way, z); e != refusal || !same(got, ought) {
		t.Errorf("Across from %x, the wall at %x along %x: %x, %d, not %x, %d", z, at, way, got, int(e), ought, int(refusal))
	}
}

func wantThrough(t *testing.T, f api.Flow, l, ways list, ought float64, refusal api.Errno) {
	t.Helper()
	if got, e := image.Through(f, l, ways); e != refusal || !sameFloats(got, ought) {
		t.Errorf("Through of %x at %d places, along %d ways: %x, %d, not %x, %d", begins(f), len(l), len(ways), got, int(e), ought, int(refusal))
	}
}
