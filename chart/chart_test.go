package chart_test

import (
	"math"
	"testing"

	"eddy/api"
	"eddy/chart"
)

type list = []complex128

type three = [3]complex128

const (
	least    = 0x1p-1074
	greatest = math.MaxFloat64
	farthest = 0x1p40
	half     = math.Pi // the higher one of both floats that Pi is told by
)

var (
	minusNought = math.Copysign(0, -1)
	infinite    = math.Inf(1)
	none        = math.NaN()
	beyond      = math.Nextafter(farthest, infinite)
	noughts     = list{0, complex(minusNought, 0), complex(0, minusNought), complex(minusNought, minusNought)}
	// noPlaces are no places, each by one part at least; edgePlaces are some, though just so.
	noPlaces   = list{complex(none, 0), complex(0, none), complex(infinite, 1), complex(1, -infinite), complex(beyond, 0), complex(0, -beyond), complex(none, none)}
	edgePlaces = list{farthest, -farthest, complex(0, farthest), complex(0, -farthest), complex(farthest, -farthest)}
	noReals    = []float64{none, infinite, -infinite, beyond, -beyond, greatest}
)

func moebius(a, b, c, d complex128) api.Map {
	return api.Map{Kind: api.MapMoebius, A: a, B: b, C: c, D: d}
}

func joukowski(a complex128) api.Map { return api.Map{Kind: api.MapJoukowski, A: a} }

func power(a, b complex128, p float64) api.Map {
	return api.Map{Kind: api.MapPower, A: a, B: b, Power: p}
}

func exp(a, b complex128) api.Map { return api.Map{Kind: api.MapExp, A: a, B: b} }

// each is one map of each kind, all of them such as may be.
func each() []api.Map {
	return []api.Map{moebius(0, 1, 1, 0), joukowski(1), power(1, 0, 2), power(1, 0, 0.5), power(2, 1, 1), exp(1, 1)}
}

// refused is a map that may not be, with Check's error of it.
type refused struct {
	m api.Map
	e api.Errno
}

func wrong() []refused {
	return []refused{
		{api.Map{}, api.ErrMap},
		{api.Map{Kind: 5, A: 1, D: 1}, api.ErrMap},
		{moebius(1, 0, 0, complex(0, beyond)), api.ErrReal},
		{moebius(1, 2, 2, 4), api.ErrMap},
		{joukowski(0), api.ErrMap},
		{power(1, complex(none, 0), 2), api.ErrReal},
		{power(1, 0, 5), api.ErrMap},
		{exp(1, 0), api.ErrMap},
	}
}

// dice tells words, the same ones at each run.
type dice uint64

func newDice() *dice {
	d := dice(0x9e3779b97f4a7c15)
	return &d
}

func (d *dice) word() uint64 {
	x := *d
	x ^= x << 13
	x ^= x >> 7
	x ^= x << 17
	*d = x
	return uint64(x)
}

func (d *dice) below(n int) int { return int(d.word() % uint64(n)) }

// part is a float of either sign, from 2^low to below 2^high in worth.
func (d *dice) part(low, high int) float64 {
	sign := float64(int64(d.word()))
	x := math.Ldexp(1+float64(d.word()>>12)*0x1p-52, low+d.below(high-low))
	return math.Copysign(x, sign)
}

func (d *dice) whole(reach int) float64 { return float64(d.below(2*reach+1) - reach) }

func (d *dice) wholes(reach int) complex128 { return complex(d.whole(reach), d.whole(reach)) }

func (d *dice) nought() complex128 { return noughts[d.below(4)] }

// real is one of any kind of worth that a place's part may have.
func (d *dice) real() float64 {
	switch d.below(6) {
	case 0:
		l := []float64{0, minusNought, 1, -1, farthest, -farthest, least, 0x1p-1022, 0x1p-40, -0x1p-200, half}
		return l[d.below(len(l))]
	case 1:
		return d.part(-1074, 40)
	case 2:
		return d.whole(4)
	}
	return d.part(-3, 3)
}

// place is one of few, or any one.
func (d *dice) place() complex128 {
	switch d.below(8) {
	case 0:
		return d.nought()
	case 1:
		return complex(d.real(), d.real())
	case 2:
		return d.wholes(3)
	case 3:
		return complex(d.whole(3), real(d.nought()))
	}
	return complex(d.part(-3, 3), d.part(-3, 3))
}

// float is any float at all, often no real.
func (d *dice) float() float64 {
	if d.below(3) == 0 {
		return noReals[d.below(len(noReals))]
	}
	return d.real()
}

// number is any complex number, at times no place.
func (d *dice) number() complex128 {
	if d.below(8) == 0 {
		return complex(d.float(), d.float())
	}
	return d.place()
}

// unit is 1, often, else any number.
func (d *dice) unit() complex128 {
	switch d.below(3) {
	case 0:
		return 1
	case 1:
		return complex(1, minusNought)
	}
	return []complex128{d.number(), d.place(), complex(d.part(-100, -20), d.part(-100, -20)), complex(d.part(-1074, 40), d.part(-1074, 40))}[d.below(4)]
}

func (d *dice) power() float64 {
	l := []float64{1, 2, 3, 4, 0.25, 0.5, 0.75, 1.5, 2.5, math.Nextafter(4, 0), math.Nextafter(0.25, 1), math.Nextafter(1, 0), math.Nextafter(2, 3), 1.0 / 3}
	if i := d.below(2 * len(l)); i < len(l) {
		return l[i]
	}
	return 0.25 + 3.75*float64(d.word()>>12)*0x1p-52
}

// good is a map of one of the kinds; hardly any may not be.
func (d *dice) good() api.Map {
	o := api.Map{Kind: uint8(1 + d.below(4)), A: d.unit(), B: d.nought(), C: d.nought(), D: d.nought(), Power: real(d.nought())}
	switch o.Kind {
	case api.MapMoebius:
		o.A, o.B, o.C, o.D = d.place(), d.place(), d.place(), d.place()
	case api.MapPower:
		o.B, o.Power = d.place(), d.power()
	case api.MapExp:
		o.B = d.unit()
	}
	return o
}

// any is any map at all.
func (d *dice) any() api.Map {
	m := d.good()
	switch d.below(12) {
	case 0:
		m.Kind = uint8(d.below(7))
	case 1:
		m.Power = d.float()
	case 2:
		m.A = d.number()
	case 3:
		m.B = d.number()
	case 4:
		m.C = d.number()
	case 5:
		m.D = d.number()
	}
	return m
}

// wholeMoebius is a Moebius map of whole parts up to reach, no nought with a minus among them.
func (d *dice) wholeMoebius(reach int) api.Map {
	for {
		m := moebius(d.wholes(reach), d.wholes(reach), d.wholes(reach), d.wholes(reach))
		if chart.Check(m) == api.OK {
			return m
		}
	}
}

// lengthy is a number whose length is from 2^-10 to 2^10, seldom on a line.
func (d *dice) lengthy() complex128 {
	for {
		z := complex(d.part(-14, 10), d.part(-14, 10))
		switch d.below(8) {
		case 0:
			z = complex(real(z), real(d.nought()))
		case 1:
			z = complex(real(d.nought()), imag(z))
		}
		if l := length(z); 0x1p-10 <= l && l <= 0x1p10 {
			return z
		}
	}
}

func sameFloats(a, b float64) bool {
	return math.IsNaN(a) && math.IsNaN(b) || math.Float64bits(a) == math.Float64bits(b)
}

func same(a, b complex128) bool {
	return sameFloats(real(a), real(b)) && sameFloats(imag(a), imag(b))
}

func sameMaps(m, n api.Map) bool {
	return m.Kind == n.Kind && same(m.A, n.A) && same(m.B, n.B) && same(m.C, n.C) && same(m.D, n.D) && sameFloats(m.Power, n.Power)
}

// like is for finite numbers: noughts alike.
func like(a, b complex128) bool { return real(a) == real(b) && imag(a) == imag(b) }

func likeMaps(m, n api.Map) bool {
	return m.Kind == n.Kind && like(m.A, n.A) && like(m.B, n.B) && like(m.C, n.C) && like(m.D, n.D) && m.Power == n.Power
}

func isFinite(a complex128) bool {
	return math.Abs(real(a)) <= greatest && math.Abs(imag(a)) <= greatest
}

func length(a complex128) float64 { return math.Hypot(real(a), imag(a)) }

func mirrored(m api.Map) api.Map {
	m.A, m.B, m.C, m.D = conj(m.A), conj(m.B), conj(m.C), conj(m.D)
	return m
}

func wantCheck(t *testing.T, m api.Map, ought api.Errno) {
	t.Helper()
	if e := chart.Check(m); e != ought {
		t.Errorf("Check of %x: %d, not %d", m, int(e), int(ought))
	}
}

func wantAt(t *testing.T, m api.Map, z, ought complex128, refusal api.Errno) {
	t.Helper()
	if w, e := chart.At(m, z); e != refusal || !same(w, ought) {
		t.Errorf("At of %x, %x: %x, %d, not %x, %d", m, z, w, int(e), ought, int(refusal))
	}
}

func wantSlope(t *testing.T, m api.Map, z, ought complex128, refusal api.Errno) {
	t.Helper()
	if w, e := chart.Slope(m, z); e != refusal || !same(w, ought) {
		t.Errorf("Slope of %x, %x: %x, %d, not %x, %d", m, z, w, int(e), ought, int(refusal))
	}
}

func wantBack(t *testing.T, m api.Map, w complex128, other bool, ought complex128, refusal api.Errno) {
	t.Helper()
	if z, e := chart.Back(m, w, other); e != refusal || !same(z, ought) {
		t.Errorf("Back of %x, %x, %t: %x, %d, not %x, %d", m, w, other, z, int(e), ought, int(refusal))
	}
}

func wantMap(t *testing.T, name string, m api.Map, e api.Errno, ought api.Map, refusal api.Errno) {
	t.Helper()
	if e != refusal || !sameMaps(m, ought) {
		t.Errorf("%s: %x, %d, not %x, %d", name, m, int(e), ought, int(refusal))
	}
}

func wantThen(t *testing.T, m, n, ought api.Map, refusal api.Errno) {
	t.Helper()
	got, e := chart.Then(m, n)
	if e != refusal || !sameMaps(got, ought) {
		t.Errorf("Then of %x, %x: %x, %d, not %x, %d", m, n, got, int(e), ought, int(refusal))
	}
}

func wantTurned(t *testing.T, m, ought api.Map, refusal api.Errno) {
	t.Helper()
	got, e := chart.Turned(m)
	if e != refusal || !sameMaps(got, ought) {
		t.Errorf("Turned of %x: %x, %d, not %x, %d", m, got, int(e), ought, int(refusal))
	}
}

func wantThree(t *testing.T, from, to three, ought api.Map, refusal api.Errno) {
	t.Helper()
	got, e := chart.Three(from, to)
	if e != refusal || !sameMaps(got, ought) {
		t.Errorf("Three of %x, %x: %x, %d, not %x, %d", from, to, got, int(e), ought, int(refusal))
	}
}

func wantCross(t *testing.T, l [4]complex128, ought complex128, refusal api.Errno) {
	t.Helper()
	got, e := chart.Cross(l[0], l[1], l[2], l[3])
	if e != refusal || !same(got, ought) {
		t.Errorf("Cross of %x: %x, %d, not %x, %d", l, got, int(e), ought, int(refusal))
	}
}
