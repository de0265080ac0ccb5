package flow_test

import (
	"math"
	"testing"

	"eddy/api"
	"eddy/flow"
)

type list = []complex128

const (
	least    = 0x1p-1074
	greatest = math.MaxFloat64
	farthest = 0x1p40
	half     = math.Pi // the higher one of both floats that Pi is told by
	many     = 256     // the most elements of a flow
	degrees  = 64      // the greatest degree
)

var (
	minusNought = math.Copysign(0, -1)
	infinite    = math.Inf(1)
	none        = math.NaN()
	beyond      = math.Nextafter(farthest, infinite)
	noughts     = list{0, complex(minusNought, 0), complex(0, minusNought), complex(minusNought, minusNought)}
	// noPlaces are no places, each by one part at least; edgePlaces are some, though just so.
	noPlaces   = list{complex(none, 0), complex(0, none), complex(infinite, 1), complex(1, -infinite), complex(beyond, 0), complex(0, -beyond), complex(none, none)}
	edgePlaces = list{farthest, -farthest, complex(0, farthest), complex(0, -farthest), complex(farthest, -farthest)}
)

func of(l ...api.Element) api.Flow { return api.Flow{Elements: l} }

func stream(s complex128) api.Element { return api.Element{Kind: api.Stream, Strength: s} }

func source(at, s complex128) api.Element {
	return api.Element{Kind: api.Source, At: at, Strength: s}
}

func doublet(at, s complex128, n float64) api.Element {
	return api.Element{Kind: api.Doublet, At: at, Strength: s, Power: n}
}

func corner(at, s complex128, p float64) api.Element {
	return api.Element{Kind: api.Corner, At: at, Strength: s, Power: p}
}

// repeated are so many, all alike.
func repeated(n int, x api.Element) api.Flow {
	var f api.Flow
	for range n {
		f.Elements = append(f.Elements, x)
	}
	return f
}

// filled is so many times a.
func filled(n int, a complex128) list {
	l := make(list, n)
	for i := range l {
		l[i] = a
	}
	return l
}

// dice tells words, the same ones at each run.
type dice uint64

func newDice() *dice {
	d := dice(0x9e3779b97f4a7c15)
	return &d
}

func (d *dice) word() uint64 {
	x := *d
	x ^= x << 13
	x ^= x >> 7
	x ^= x << 17
	*d = x
	return uint64(x)
}

func (d *dice) below(n int) int { return int(d.word() % uint64(n)) }

// part is a float of either sign, from 2^low to below 2^high in worth.
func (d *dice) part(low, high int) float64 {
	sign := float64(int64(d.word()))
	x := math.Ldexp(1+float64(d.word()>>12)*0x1p-52, low+d.below(high-low))
	return math.Copysign(x, sign)
}

func (d *dice) whole(reach int) float64 { return float64(d.below(2*reach+1) - reach) }

func (d *dice) wholes(reach int) complex128 { return complex(d.whole(reach), d.whole(reach)) }

func (d *dice) nought() complex128 { return noughts[d.below(4)] }

// real is one of any kind of worth that a place's part may have.
func (d *dice) real() float64 {
	switch d.below(6) {
	case 0:
		l := []float64{0, minusNought, 1, -1, farthest, -farthest, least, 0x1p-1022, 0x1p-40, -0x1p-200, half}
		return l[d.below(len(l))]
	case 1:
		return d.part(-1074, 40)
	case 2:
		return d.whole(4)
	}
	return d.part(-3, 3)
}

func (d *dice) number() complex128 { return complex(d.real(), d.real()) }

// place is one of few, so that several elements come to lie there, or any one.
func (d *dice) place() complex128 {
	switch d.below(8) {
	case 0:
		return d.nought()
	case 1:
		return d.number()
	case 2:
		return complex(d.part(-3, 2), d.part(-3, 2))
	}
	return complex(d.whole(1), real(d.nought()))
}

// strength is seldom so great or so small that it leaves the floats.
func (d *dice) strength() complex128 {
	switch d.below(6) {
	case 0:
		return d.number()
	case 1:
		return d.wholes(3)
	}
	return complex(d.part(-4, 4), d.part(-4, 4))
}

// rational is an element, but no Corner of a broken power.
func (d *dice) rational() api.Element {
	at, s := d.place(), d.strength()
	switch d.below(6) {
	case 0:
		return stream(s)
	case 1:
		return api.Element{Kind: api.Stream, At: d.nought(), Strength: s, Power: real(d.nought())}
	case 2, 3:
		return source(at, s)
	case 4:
		return doublet(at, s, float64(1+min(d.below(8), d.below(8))))
	}
	return corner(at, s, float64(1+d.below(4)))
}

// element is any one that may be.
func (d *dice) element() api.Element {
	if d.below(6) > 0 {
		return d.rational()
	}
	return corner(d.place(), d.strength(), 0.25+3.75*float64(d.word()>>11)*0x1p-53)
}

// flow is so many of those that throw tells.
func (d *dice) flow(n int, throw func() api.Element) api.Flow {
	f := api.Flow{}
	for range n {
		f.Elements = append(f.Elements, throw())
	}
	return f
}

// about is a place, often that of an element, or straight beside it.
func (d *dice) about(f api.Flow) complex128 {
	z := d.number()
	if len(f.Elements) == 0 {
		return z
	}
	at := f.Elements[d.below(len(f.Elements))].At
	switch d.below(8) {
	case 0:
		return at
	case 1:
		return complex(real(at), imag(z))
	case 2:
		return complex(real(z), imag(at))
	}
	return z
}

func sameFloats(a, b float64) bool {
	return math.IsNaN(a) && math.IsNaN(b) || math.Float64bits(a) == math.Float64bits(b)
}

func same(a, b complex128) bool {
	return sameFloats(real(a), real(b)) && sameFloats(imag(a), imag(b))
}

func sameLists(a, b list) bool {
	if len(a) != len(b) {
		return false
	}
	for i := range a {
		if !same(a[i], b[i]) {
			return false
		}
	}
	return true
}

func sameElements(a, b api.Element) bool {
	return a.Kind == b.Kind && same(a.At, b.At) && same(a.Strength, b.Strength) && sameFloats(a.Power, b.Power)
}

func sameFlows(f, g api.Flow) bool {
	if len(f.Elements) != len(g.Elements) {
		return false
	}
	for i := range f.Elements {
		if !sameElements(f.Elements[i], g.Elements[i]) {
			return false
		}
	}
	return true
}

// like is for finite numbers: noughts alike.
func like(a, b complex128) bool { return real(a) == real(b) && imag(a) == imag(b) }

func isFinite(a complex128) bool {
	return math.Abs(real(a)) <= greatest && math.Abs(imag(a)) <= greatest
}

// call is one of those that tell a number at a place.
type call struct {
	name string
	does func(api.Flow, complex128) (complex128, api.Errno)
}

func calls() []call {
	return []call{{"Potential", flow.Potential}, {"Speed", flow.Speed}, {"Slope", flow.Slope}, {"Way", flow.Way}}
}

// wantCall tells where a call answers otherwise than it ought to; refused, it ought to answer nothing else.
func wantCall(t *testing.T, c call, f api.Flow, z, ought complex128, refusal api.Errno) {
	t.Helper()
	got, e := c.does(f, z)
	if e != refusal || !same(got, ought) {
		t.Errorf("%s of %x at %x: %x, %d, not %x, %d", c.name, f, z, got, int(e), ought, int(refusal))
	}
}

func wantStream(t *testing.T, f api.Flow, z complex128, ought float64, refusal api.Errno) {
	t.Helper()
	if got, e := flow.Stream(f, z); e != refusal || !sameFloats(got, ought) {
		t.Errorf("Stream of %x at %x: %x, %d, not %x, %d", f, z, got, int(e), ought, int(refusal))
	}
}

func wantPress(t *testing.T, f api.Flow, far, z complex128, ought float64, refusal api.Errno) {
	t.Helper()
	if got, e := flow.Press(f, far, z); e != refusal || !sameFloats(got, ought) {
		t.Errorf("Press of %x, %x, at %x: %x, %d, not %x, %d", f, far, z, got, int(e), ought, int(refusal))
	}
}

// wantFlow takes what a call answers; refused, it ought to have no list at all.
func wantFlow(t *testing.T, name string, got api.Flow, e api.Errno, ought api.Flow, refusal api.Errno) {
	t.Helper()
	if e != refusal || !sameFlows(got, ought) || e != api.OK && got.Elements != nil {
		t.Errorf("%s: %x, %d, not %x, %d", name, got, int(e), ought, int(refusal))
	}
}

func wantAdd(t *testing.T, f, g, ought api.Flow, refusal api.Errno) {
	t.Helper()
	got, e := flow.Add(f, g)
	wantFlow(t, "Add", got, e, ought, refusal)
}

func wantPlaces(t *testing.T, f api.Flow, ought list, refusal api.Errno) {
	t.Helper()
	if l, e := flow.Places(f); e != refusal || !sameLists(l, ought) || e != api.OK && l != nil {
		t.Errorf("Places of %x: %x, %d, not %x, %d", f, l, int(e), ought, int(refusal))
	}
}

// wantFraction asks for a fraction, to the bit, or for the fraction of no lists that stands beside a false.
func wantFraction(t *testing.T, f api.Flow, ought api.Fraction, is bool, refusal api.Errno) {
	t.Helper()
	got, ok, e := flow.Fraction(f)
	if ok != is || e != refusal || !sameLists(got.Top, ought.Top) || !sameLists(got.Bottom, ought.Bottom) || !ok && (got.Top != nil || got.Bottom != nil) {
		t.Errorf("Fraction of %x: %x, %t, %d, not %x, %t, %d", f, got, ok, int(e), ought, is, int(refusal))
	}
}

// wantRefused asks all calls of a flow that may not be: each tells what is wrong with it ahead of all else.
func wantRefused(t *testing.T, f api.Flow, refusal api.Errno) {
	t.Helper()
	wantCheck(t, f, refusal)
	for _, z := range append(list{0, 1 - 2i}, noPlaces...) {
		for _, c := range calls() {
			wantCall(t, c, f, z, 0, refusal)
		}
		wantStream(t, f, z, 0, refusal)
		wantPress(t, f, 1, z, 0, refusal)
		wantPress(t, f, z, 1, 0, refusal)
	}
	for _, g := range []api.Flow{of(), of(stream(1)), repeated(many, stream(1))} {
		wantAdd(t, f, g, api.Flow{}, refusal)
		wantAdd(t, g, f, api.Flow{}, refusal)
	}
	got, e := flow.Conj(f)
	wantFlow(t, "Conj", got, e, api.Flow{}, refusal)
	got, e = flow.Neg(f)
	wantFlow(t, "Neg", got, e, api.Flow{}, refusal)
	wantPlaces(t, f, nil, refusal)
	wantFraction(t, f, api.Fraction{}, false, refusal)
}

func wantCheck(t *testing.T, f api.Flow, ought api.Errno) {
	t.Helper()
	if e := flow.Check(f); e != ought {
		t.Errorf("Check(%x): %d, not %d", f, int(e), int(ought))
	}
}
