package element_test

import (
	"testing"

	"eddy/api"
	"eddy/element"
	"eddy/parts"
	"eddy/roots"
)

// bothLike tells where two calls that ought to answer alike, one of them changed by a function, do not.
func bothLike(t *testing.T, c call, x api.Element, z complex128, y api.Element, w complex128, change func(complex128) complex128) {
	t.Helper()
	a, e := c.does(x, z)
	b, f := c.does(y, w)
	if e != f || e == api.OK && !like(change(a), b) {
		t.Errorf("%s of %x at %x: %x, %d; of %x at %x: %x, %d", c.name, x, z, a, int(e), y, w, b, int(f))
	}
}

func TestP15_5Backward(t *testing.T) {
	d := newDice()
	for range 60000 {
		x := d.element()
		z := d.about(x)
		y, _ := element.Neg(x)
		for _, c := range calls() {
			bothLike(t, c, x, z, y, z, parts.Neg)
		}
	}
}

// cutAt tells whether a place lies on the cut of an element: where only the potential is cut, and where all is.
func cutAt(x api.Element, z complex128) (potential, all bool) {
	d := parts.Sub(z, x.At)
	on := real(d) < 0 && imag(d) == 0
	broken := x.Kind == api.Corner && !isWholePower(x.Power)
	return on && (broken || x.Kind == api.Source), on && broken
}

func TestP15_5Mirror(t *testing.T) {
	d := newDice()
	cut := 0
	for range 60000 {
		x := d.element()
		z := d.about(x)
		y, _ := element.Conj(x)
		potential, all := cutAt(x, z)
		if potential {
			cut++
		}
		for i, c := range calls() {
			if !all && (i > 0 || !potential) {
				bothLike(t, c, x, z, y, parts.Conj(z), parts.Conj)
			}
		}
	}
	if cut < 500 {
		t.Errorf("only %d on the cut", cut)
	}
}

// On the cut the sign of d's nought tells the side: At's own nought loses it, a place's minus keeps it.
func TestP15_5OnTheCut(t *testing.T) {
	below := complex(-4, minusNought)
	for _, s := range []complex128{1, 3 - 2i} {
		for _, p := range []float64{0.5, 1.5, 2.5} {
			x := corner(0, s, p)
			for i, c := range calls() {
				wantSteps(t, x, -4)
				wantSteps(t, x, below)
				a, _ := c.does(x, -4)
				b, _ := c.does(x, below)
				if near(a, b) {
					t.Errorf("%s of %v on both sides of the cut, call %d: %v, %v", c.name, x, i, a, b)
				}
			}
		}
		a, _ := element.Potential(source(0, s), -4)
		b, _ := element.Potential(source(0, s), below)
		if !near(a-b, s*1i) {
			t.Errorf("Potential of the Source %v on both sides of the cut: %v, %v", s, a, b)
		}
		lost := source(complex(0, minusNought), s) // -0 less -0 is 0
		wantSteps(t, lost, below)
		if b, _ = element.Potential(lost, below); !same(a, b) {
			t.Errorf("Potential of the Source %v at -0i, on the cut: %v, %v", s, a, b)
		}
	}
	for _, x := range alike(0, 3-2i) { // the others have no cut
		if potential, all := cutAt(x, -4); !all {
			for i, c := range calls() {
				a, _ := c.does(x, -4)
				b, _ := c.does(x, below)
				if (i > 0 || !potential) && !like(a, b) {
					t.Errorf("%s of %v at -4 and below: %v, %v", c.name, x, a, b)
				}
			}
		}
	}
}

// near tells whether the second number is nearly the first one: but for 2^-30 of its length.
func near(a, b complex128) bool {
	return roots.Length(parts.Sub(a, b)) <= 0x1p-30*roots.Length(b)
}

func TestP15_6Moved(t *testing.T) {
	d := newDice()
	for range 60000 {
		x := d.element()
		x.At, x.Strength = d.wholes(1000), d.wholes(1000)
		if x.Kind == api.Stream {
			x.At = 0
		}
		z, by := d.wholes(1000), d.wholes(1000)
		switch d.below(8) {
		case 0:
			z = x.At
		case 1:
			z = complex(real(z), imag(x.At))
		case 2:
			z = complex(real(x.At), imag(z))
		}
		y, e := element.Moved(x, by)
		if e != api.OK {
			t.Fatalf("Moved of %v by %v: %d", x, by, int(e))
		}
		for i, c := range calls() {
			if x.Kind == api.Stream && i == 0 {
				continue
			}
			a, e := c.does(x, z)
			b, f := c.does(y, z+by)
			if e != f || !same(a, b) {
				t.Errorf("%s of %v at %v: %v, %d; moved by %v: %v, %d", c.name, x, z, a, int(e), by, b, int(f))
			}
		}
	}
}

// whole is a complex number of whole parts.
type whole struct{ re, im int64 }

func wholeOf(a complex128) whole { return whole{int64(real(a)), int64(imag(a))} }

func (a whole) minus(b whole) whole { return whole{a.re - b.re, a.im - b.im} }

func (a whole) times(b whole) whole {
	return whole{a.re*b.re - a.im*b.im, a.re*b.im + a.im*b.re}
}

func TestP15_6WholePowers(t *testing.T) {
	d := newDice()
	for i := range 60000 {
		at, s, z := d.wholes(1000), d.wholes(1000), d.wholes(1000)
		if i%8 == 0 { // the greatest numbers that may come up
			at, s, z = 1000-1000i, -1000+1000i, -1000+1000i
		}
		far := wholeOf(z).minus(wholeOf(at))
		ought := wholeOf(s)
		for p := range 2 {
			ought = ought.times(far)
			x := corner(at, s, float64(p+1))
			if got, e := element.Potential(x, z); e != api.OK || got != complex(float64(ought.re), float64(ought.im)) {
				t.Fatalf("Potential of %v at %v: %v, %d, not %v", x, z, got, int(e), ought)
			}
		}
	}
}

// long is a number from 2^-20 to 2^20 long.
func (d *dice) long() complex128 {
	for {
		a := complex(d.part(-26, 21), d.part(-26, 21))
		switch d.below(8) {
		case 0:
			a = complex(real(a), 0)
		case 1:
			a = complex(0, imag(a))
		}
		if l := roots.Length(a); l >= 0x1p-20 && l <= 0x1p20 {
			return a
		}
	}
}

// wantNear tells where d times what a call answers is not nearly so many times something else.
func wantNear(t *testing.T, c call, x api.Element, z, by, what complex128) {
	t.Helper()
	got, e := c.does(x, z)
	product := parts.Mul(parts.Sub(z, x.At), got)
	if ought := parts.Mul(by, what); e != api.OK || !near(product, ought) {
		t.Errorf("%s of %x at %x: %x, %d, times d not nearly %x", c.name, x, z, got, int(e), ought)
	}
}

func TestP15_7(t *testing.T) {
	d := newDice()
	for range 60000 {
		x := d.element()
		x.Strength = d.long()
		if x.Kind == api.Stream {
			continue
		}
		x.At = complex(d.part(-30, 30), d.part(-30, 30))
		if d.below(3) == 0 {
			x.At = d.nought()
		}
		z := x.At + d.long()
		if l := roots.Length(parts.Sub(z, x.At)); l < 0x1p-20 || l > 0x1p20 {
			continue // rounded away
		}
		potential, _ := element.Potential(x, z)
		speed, _ := element.Speed(x, z)
		p := complex(x.Power, 0)
		switch x.Kind {
		case api.Source:
			wantNear(t, calls()[1], x, z, 1, scale(x.Strength, over(1, times(2, half))))
			wantNear(t, calls()[2], x, z, -1, speed)
		case api.Doublet:
			wantNear(t, calls()[1], x, z, -p, potential)
			wantNear(t, calls()[2], x, z, -(p + 1), speed)
		case api.Corner:
			wantNear(t, calls()[1], x, z, p, potential)
			wantNear(t, calls()[2], x, z, p-1, speed)
		}
	}
}
