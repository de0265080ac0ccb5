package element_test

import (
	"math"
	"testing"

	"eddy/api"
	"eddy/element"
)

const (
	least    = 0x1p-1074
	greatest = math.MaxFloat64
	farthest = 0x1p40
	half     = math.Pi // the higher one of both floats that Pi is told by
)

var (
	minusNought = math.Copysign(0, -1)
	infinite    = math.Inf(1)
	none        = math.NaN()
	beyond      = math.Nextafter(farthest, infinite)
	noughts     = []complex128{0, complex(minusNought, 0), complex(0, minusNought), complex(minusNought, minusNought)}
)

func stream(s complex128) api.Element { return api.Element{Kind: api.Stream, Strength: s} }

func source(at, s complex128) api.Element {
	return api.Element{Kind: api.Source, At: at, Strength: s}
}

func doublet(at, s complex128, n float64) api.Element {
	return api.Element{Kind: api.Doublet, At: at, Strength: s, Power: n}
}

func corner(at, s complex128, p float64) api.Element {
	return api.Element{Kind: api.Corner, At: at, Strength: s, Power: p}
}

// brokenPowers are such as a Corner may have, at the ends, about the whole ones and among them.
func brokenPowers() []float64 {
	l := []float64{0.25, 0.3, 0.5, 0.75, 1.25, 1.5, 1.75, 2.5, 2.718281828459045, 3.5}
	for _, p := range []float64{1, 2, 3, 4} {
		l = append(l, math.Nextafter(p, 0), math.Nextafter(p, 9))
	}
	return l[:len(l)-1] // just above 4 there is none
}

// alike are elements of each kind and power, all with the same At and Strength (but the Stream, which has no At).
func alike(at, s complex128) []api.Element {
	l := []api.Element{stream(s), source(at, s)}
	for n := range 8 {
		l = append(l, doublet(at, s, float64(n+1)))
	}
	for _, p := range append(brokenPowers(), 1, 2, 3, 4) {
		l = append(l, corner(at, s, p))
	}
	return l
}

// dice tells words, the same ones at each run.
type dice uint64

func newDice() *dice {
	d := dice(0x9e3779b97f4a7c15)
	return &d
}

func (d *dice) word() uint64 {
	x := *d
	x ^= x << 13
	x ^= x >> 7
	x ^= x << 17
	*d = x
	return uint64(x)
}

func (d *dice) below(n int) int { return int(d.word() % uint64(n)) }

// part is a float of either sign, from 2^low to below 2^high in worth.
func (d *dice) part(low, high int) float64 {
	sign := float64(int64(d.word()))
	x := math.Ldexp(1+float64(d.word()>>12)*0x1p-52, low+d.below(high-low))
	return math.Copysign(x, sign)
}

func (d *dice) whole(reach int) float64 { return float64(d.below(2*reach+1) - reach) }

func (d *dice) wholes(reach int) complex128 { return complex(d.whole(reach), d.whole(reach)) }

// real is one of any kind of worth that a place's part may have.
func (d *dice) real() float64 {
	switch d.below(6) {
	case 0:
		l := []float64{0, minusNought, 1, -1, farthest, -farthest, least, -least, 0x1p-1022, 0x1p-40, 0x1p-200, half}
		return l[d.below(len(l))]
	case 1:
		return d.part(-1074, 40)
	case 2:
		return d.whole(4)
	case 3:
		return d.part(-40, 40)
	}
	return d.part(-3, 3)
}

func (d *dice) number() complex128 { return complex(d.real(), d.real()) }

func (d *dice) nought() complex128 { return noughts[d.below(4)] }

// element is one that may be, of any kind and power.
func (d *dice) element() api.Element {
	at, s := d.number(), d.number()
	switch d.below(8) {
	case 0:
		x := stream(s)
		x.At, x.Power = d.nought(), real(d.nought())
		return x
	case 1, 2:
		x := source(at, s)
		x.Power = real(d.nought())
		return x
	case 3, 4:
		return doublet(at, s, float64(1+d.below(8)))
	case 5:
		return corner(at, s, float64(1+d.below(4)))
	case 6:
		l := brokenPowers()
		return corner(at, s, l[d.below(len(l))])
	}
	return corner(at, s, 0.25+3.75*float64(d.word()>>11)*0x1p-53)
}

// about is a place, often one that an element sees in some particular way: where it lies, straight beside it, on the cut.
func (d *dice) about(x api.Element) complex128 {
	z := d.number()
	switch d.below(6) {
	case 0:
		return x.At
	case 1:
		return complex(real(x.At), imag(z))
	case 2:
		return complex(real(z), imag(x.At))
	case 3:
		return complex(real(z), real(d.nought()))
	}
	return z
}

func sameFloats(a, b float64) bool {
	return math.IsNaN(a) && math.IsNaN(b) || math.Float64bits(a) == math.Float64bits(b)
}

func same(a, b complex128) bool {
	return sameFloats(real(a), real(b)) && sameFloats(imag(a), imag(b))
}

// like is for finite numbers: noughts alike.
func like(a, b complex128) bool { return real(a) == real(b) && imag(a) == imag(b) }

func isFinite(a complex128) bool {
	return math.Abs(real(a)) <= greatest && math.Abs(imag(a)) <= greatest
}

func sameElements(a, b api.Element) bool {
	return a.Kind == b.Kind && same(a.At, b.At) && same(a.Strength, b.Strength) && sameFloats(a.Power, b.Power)
}

// call is one of those that tell what is at a place.
type call struct {
	name string
	does func(api.Element, complex128) (complex128, api.Errno)
}

func calls() [3]call {
	return [3]call{{"Potential", element.Potential}, {"Speed", element.Speed}, {"Slope", element.Slope}}
}

// wantCall tells where a call answers otherwise than it ought to; refused, it ought to answer nothing else.
func wantCall(t *testing.T, c call, x api.Element, z, ought complex128, refusal api.Errno) {
	t.Helper()
	got, e := c.does(x, z)
	if e != refusal || !same(got, ought) {
		t.Errorf("%s of %x at %x: %x, %d, not %x, %d", c.name, x, z, got, int(e), ought, int(refusal))
	}
}

// wantValue is wantCall of an answer, or of none: then it is ErrPlace.
func wantValue(t *testing.T, c call, x api.Element, z, ought complex128) {
	t.Helper()
	if isFinite(ought) {
		wantCall(t, c, x, z, ought, api.OK)
	} else {
		wantCall(t, c, x, z, 0, api.ErrPlace)
	}
}

// wantElement tells where a call answers another element than it ought to.
func wantElement(t *testing.T, name string, got api.Element, e api.Errno, ought api.Element, refusal api.Errno) {
	t.Helper()
	if e != refusal || !sameElements(got, ought) {
		t.Errorf("%s: %x, %d, not %x, %d", name, got, int(e), ought, int(refusal))
	}
}
