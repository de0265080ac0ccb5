package box_test

import (
	"math"
	"testing"

	"eddy/api"
	"eddy/box"
)

type list = []complex128

const (
	least    = 0x1p-1074
	greatest = math.MaxFloat64
	most     = 0x1p40 // the greatest worth of a coefficient's part
)

var (
	minusNought = math.Copysign(0, -1)
	infinite    = math.Inf(1)
	none        = math.NaN()
	// finite are floats at which something may turn; strange has those too that no box may have.
	finite  = []float64{0, minusNought, least, -least, 1, -1, 2.5, 0x1p-540, 0x1p600, -0x1p600, greatest, -greatest}
	strange = append([]float64{none, infinite, -infinite}, finite...)
)

// dice tells words, the same ones at each run.
type dice uint64

func newDice() *dice {
	d := dice(0x9e3779b97f4a7c15)
	return &d
}

func (d *dice) word() uint64 {
	x := *d
	x ^= x << 13
	x ^= x >> 7
	x ^= x << 17
	*d = x
	return uint64(x)
}

func (d *dice) below(n int) int { return int(d.word() % uint64(n)) }

// part is a float of either sign, from 2^-reach to below 2^reach in worth.
func (d *dice) part(reach int) float64 {
	sign := float64(int64(d.word()))
	x := math.Ldexp(1+float64(d.word()>>12)*0x1p-52, d.below(2*reach)-reach)
	return math.Copysign(x, sign)
}

// float is a finite one, ordinary more often than not.
func (d *dice) float() float64 {
	switch d.below(12) {
	case 0:
		return finite[d.below(len(finite))]
	case 1:
		return float64(d.below(17) - 8)
	case 2: // below all floats of full length
		return math.Copysign(float64(d.below(9))*least, float64(d.below(2))-0.5)
	case 3:
		return d.part(1022)
	case 4:
		return d.part(540)
	case 5: // about where a square underflows, or passes all floats
		return math.Ldexp(d.part(3), []int{-538, 512, -511}[d.below(3)])
	}
	return d.part(4)
}

// ends are two floats in order, at times the same one, neighbours, or noughts that stand the wrong way round.
func (d *dice) ends() (float64, float64) {
	a, b := d.float(), d.float()
	switch d.below(8) {
	case 0:
		b = a
	case 1:
		b = near(a, d.below(4))
	case 2:
		a, b = math.Abs(a), math.Abs(b)
	case 3:
		if d.below(4) == 0 {
			return 0, minusNought
		}
	}
	return math.Min(a, b), math.Max(a, b)
}

// near is a float so many steps above, or a itself at the end of all floats.
func near(a float64, steps int) float64 {
	for range steps {
		if a < greatest {
			a = math.Nextafter(a, infinite)
		}
	}
	return a
}

func (d *dice) box() api.Box {
	a, b := d.ends()
	c, e := d.ends()
	return of(a, b, c, e)
}

// plain has ends as programs have them.
func (d *dice) plain() api.Box {
	b, _ := box.Make(complex(d.part(3), d.part(3)), complex(d.part(3), d.part(3)))
	return b
}

// wild is of any bits at all.
func (d *dice) wild() api.Box {
	f := func() float64 {
		if d.below(3) == 0 {
			return strange[d.below(len(strange))]
		}
		return math.Float64frombits(d.word())
	}
	return of(f(), f(), f(), f())
}

// polynomial is one that may be, of any degree up to the one that is told.
func (d *dice) polynomial(degree, reach int) list {
	l := make(list, d.below(degree+1)+1)
	for i := range l {
		l[i] = complex(d.part(reach), d.part(reach))
		if d.below(6) == 0 && i < len(l)-1 {
			l[i] = complex(minusNought, 0)
		}
	}
	return l
}

// of is a box by its spans' ends.
func of(a, b, c, d float64) api.Box { return api.Box{Low: complex(a, c), High: complex(b, d)} }

func at(a complex128) api.Box { return api.Box{Low: a, High: a} }

func sameFloats(a, b float64) bool {
	return math.IsNaN(a) && math.IsNaN(b) || math.Float64bits(a) == math.Float64bits(b)
}

func same(a, b complex128) bool {
	return sameFloats(real(a), real(b)) && sameFloats(imag(a), imag(b))
}

func sameBoxes(a, b api.Box) bool { return same(a.Low, b.Low) && same(a.High, b.High) }

func isFinite(a float64) bool { return math.Abs(a) <= greatest }

// mayBe asks the words of the chapter, float by float.
func mayBe(b api.Box) bool {
	for _, x := range []float64{real(b.Low), imag(b.Low), real(b.High), imag(b.High)} {
		if !isFinite(x) {
			return false
		}
	}
	return real(b.Low) <= real(b.High) && imag(b.Low) <= imag(b.High)
}

func has(b api.Box, z complex128) bool {
	return mayBe(b) && real(b.Low) <= real(z) && real(z) <= real(b.High) && imag(b.Low) <= imag(z) && imag(z) <= imag(b.High)
}

// wantBox takes what a call answers as it comes.
func wantBox(t *testing.T, what string, ought api.Box, oughtE api.Errno, got api.Box, e api.Errno) {
	t.Helper()
	if e != oughtE || !sameBoxes(got, ought) {
		t.Errorf("%s: %x, %d, not %x, %d", what, got, int(e), ought, int(oughtE))
	}
}

func wantCheck(t *testing.T, b api.Box, ought api.Errno) {
	t.Helper()
	if e := box.Check(b); e != ought {
		t.Errorf("Check(%v): %d, not %d", b, int(e), int(ought))
	}
}

// spansOf are all pairs of the floats that are told.
func spansOf(l []float64) (out [][2]float64) {
	for _, a := range l {
		for _, b := range l {
			out = append(out, [2]float64{a, b})
		}
	}
	return out
}

func TestP11_1Check(t *testing.T) {
	for _, b := range []api.Box{of(0, 1, 0, 1), of(0, minusNought, minusNought, 0), of(0, minusNought, 0, minusNought), of(1, 1, -1, -1), of(-greatest, greatest, -greatest, greatest), of(-least, 0, minusNought, least), {}} {
		wantCheck(t, b, api.OK)
	}
	for _, b := range []api.Box{
		of(1, 0, 0, 1), of(0, 1, 1, 0), of(0, -least, 0, 0), of(0, 0, least, minusNought), of(math.Nextafter(1, 2), 1, 0, 0),
		of(0, infinite, 0, 1), of(-infinite, 0, 0, 1), of(0, 1, 0, infinite), of(0, 1, -infinite, 0), of(-infinite, infinite, -infinite, infinite), of(infinite, infinite, 0, 0), of(0, 0, -infinite, -infinite),
		of(none, 0, 0, 1), of(0, none, 0, 1), of(0, 1, none, 0), of(0, 1, 0, none), of(none, none, none, none), of(none, -infinite, 0, 1), of(infinite, none, 0, 1),
	} {
		wantCheck(t, b, api.ErrBox)
	}
	for _, x := range spansOf(strange) {
		for _, y := range spansOf(strange) {
			b := of(x[0], x[1], y[0], y[1])
			ought := api.ErrBox
			if mayBe(b) {
				ought = api.OK
			}
			wantCheck(t, b, ought)
		}
	}
}

func TestP11_1Make(t *testing.T) {
	for _, x := range spansOf(strange) {
		for _, y := range spansOf(strange) {
			a, b := complex(x[0], y[0]), complex(x[1], y[1])
			ought, oughtE := of(math.Min(x[0], x[1]), math.Max(x[0], x[1]), math.Min(y[0], y[1]), math.Max(y[0], y[1])), api.OK
			if !isFinite(x[0]) || !isFinite(x[1]) || !isFinite(y[0]) || !isFinite(y[1]) {
				ought, oughtE = api.Box{}, api.ErrBox
			}
			got, e := box.Make(a, b)
			wantBox(t, "Make", ought, oughtE, got, e)
			if e == api.OK {
				wantCheck(t, got, api.OK)
			}
		}
	}
	got, e := box.Make(complex(1, -3), complex(-2, 4))
	wantBox(t, "Make", of(-2, 1, -3, 4), api.OK, got, e)
	got, e = box.Make(0, complex(minusNought, minusNought))
	wantBox(t, "Make of noughts", of(minusNought, 0, minusNought, 0), api.OK, got, e)
	got, e = box.Make(complex(minusNought, 0), complex(0, minusNought))
	wantBox(t, "Make of noughts", of(minusNought, 0, minusNought, 0), api.OK, got, e)
}

func TestP11_1Point(t *testing.T) {
	for _, x := range spansOf(strange) {
		a := complex(x[0], x[1])
		ought, oughtE := at(a), api.OK
		if !isFinite(x[0]) || !isFinite(x[1]) {
			ought, oughtE = api.Box{}, api.ErrBox
		}
		got, e := box.Point(a)
		wantBox(t, "Point", ought, oughtE, got, e)
	}
}

func wantHas(t *testing.T, b api.Box, z complex128, ought bool) {
	t.Helper()
	if box.Has(b, z) != ought {
		t.Errorf("Has(%v, %v): %v", b, z, !ought)
	}
}

func TestP11_2Has(t *testing.T) {
	few := []float64{none, -infinite, infinite, -1, minusNought, 0, 1}
	for _, x := range spansOf(few) {
		for _, y := range spansOf(few) {
			for _, z := range spansOf(few) {
				b := of(x[0], x[1], y[0], y[1])
				wantHas(t, b, complex(z[0], z[1]), has(b, complex(z[0], z[1])))
			}
		}
	}
	b := of(1, 2, -4, -3)
	for _, x := range []float64{1, 1.5, 2} {
		for _, y := range []float64{-4, -3.5, -3} {
			wantHas(t, b, complex(x, y), true)
		}
	}
	for _, z := range []complex128{complex(math.Nextafter(1, 0), -3), complex(math.Nextafter(2, 3), -3), complex(1, math.Nextafter(-4, -5)), complex(2, math.Nextafter(-3, 0)), complex(none, -3), complex(1, none), complex(infinite, -3), complex(1, -infinite), 0} {
		wantHas(t, b, z, false)
	}
	wantHas(t, at(0), complex(minusNought, minusNought), true)
	wantHas(t, at(complex(minusNought, minusNought)), 0, true)
	wantHas(t, of(2, 1, -4, -3), 1.5-3.5i, false)
	wantHas(t, of(1, infinite, -4, -3), 1.5-3.5i, false)
}

// Of all pairs of boxes with these ends, some of which may not be.
func TestP11_2InOver(t *testing.T) {
	few := []float64{-infinite, -1, minusNought, 0, 2, none}
	spans := spansOf(few)
	for _, x := range spans {
		for _, y := range spans {
			a, b := of(x[0], x[1], 0, 1), of(y[0], y[1], 0, 1)
			wantInOver(t, a, b)
			a, b = of(0, 1, x[0], x[1]), of(0, 1, y[0], y[1])
			wantInOver(t, a, b)
			a, b = of(x[0], x[1], y[0], y[1]), of(-1, 0, 0, 2)
			wantInOver(t, a, b)
			wantInOver(t, b, a)
		}
	}
	d := newDice()
	for range 20000 {
		a, b := d.box(), d.box()
		wantInOver(t, a, b)
		wantInOver(t, a, a)
		wantInOver(t, d.plain(), d.plain())
		wantInOver(t, a, d.wild())
	}
}

func wantInOver(t *testing.T, a, b api.Box) {
	t.Helper()
	in := mayBe(a) && has(b, a.Low) && has(b, a.High)
	if box.In(a, b) != in {
		t.Errorf("In(%v, %v): %v", a, b, !in)
	}
	over := mayBe(a) && mayBe(b) &&
		real(a.Low) <= real(b.High) && real(b.Low) <= real(a.High) &&
		imag(a.Low) <= imag(b.High) && imag(b.Low) <= imag(a.High)
	if box.Over(a, b) != over {
		t.Errorf("Over(%v, %v): %v", a, b, !over)
	}
}

func TestP11_2Ends(t *testing.T) {
	one, two := of(0, 1, 0, 1), of(1, 2, 1, 2)
	for _, r := range []struct {
		a, b     api.Box
		in, over bool
	}{
		{one, one, true, true}, {one, two, false, true}, {two, one, false, true}, {one, of(0, 2, 0, 2), true, true}, {of(0, 2, 0, 2), one, false, true},
		{one, of(math.Nextafter(1, 2), 2, 0, 1), false, false}, {one, of(0, 1, math.Nextafter(1, 2), 2), false, false}, {of(2, 3, 0, 1), one, false, false}, {of(0, 1, 2, 3), one, false, false},
		{at(1 + 1i), one, true, true}, {at(1 + 1i), at(1 + 1i), true, true}, {at(complex(minusNought, 0)), at(complex(0, minusNought)), true, true},
		{of(0, 3, 1, 2), of(1, 2, 0, 3), false, true}, {of(1, 0, 0, 1), one, false, false}, {one, of(0, 1, 1, 0), false, false}, {one, of(-infinite, infinite, -infinite, infinite), false, false}, {of(none, none, 0, 1), one, false, false},
	} {
		if box.In(r.a, r.b) != r.in || box.Over(r.a, r.b) != r.over {
			t.Errorf("%v, %v: In %v, Over %v", r.a, r.b, !r.in, !r.over)
		}
	}
}

func filled(n int, c complex128) list {
	l := make(list, n)
	for i := range l {
		l[i] = c
	}
	return l
}
