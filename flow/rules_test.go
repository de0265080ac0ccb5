package flow_test

import (
	"math"
	"testing"

	"eddy/api"
	"eddy/element"
	"eddy/flow"
	"eddy/ratio"
)

// bothLike tells where two calls that ought to answer alike, one of them changed by a function, do not.
func bothLike(t *testing.T, c call, f api.Flow, z complex128, g api.Flow, w complex128, change func(complex128) complex128) {
	t.Helper()
	a, e := c.does(f, z)
	b, h := c.does(g, w)
	if e != h || e == api.OK && !like(change(a), b) {
		t.Errorf("%s of %x at %x: %x, %d; of %x at %x: %x, %d", c.name, f, z, a, int(e), g, w, b, int(h))
	}
}

// W5: a flow's speed is its elements' speeds, added up, to the bit.
func TestP16_7Together(t *testing.T) {
	d := newDice()
	for range 20000 {
		f, x := d.flow(1+d.below(5), d.element), d.element()
		z := d.about(f)
		all, _ := flow.Add(f, of(x))
		for i, one := range tellsOne() {
			a, e := calls()[i].does(f, z)
			b, g := one(x, z)
			ought := api.OK
			if e != api.OK || g != api.OK || !isFinite(add(a, b)) {
				a, b, ought = 0, 0, api.ErrPlace
			}
			wantCall(t, calls()[i], all, z, add(a, b), ought)
		}
	}
}

func TestP16_7Backward(t *testing.T) {
	d := newDice()
	for range 20000 {
		f := d.flow(d.below(6), d.element)
		z := d.about(f)
		g, _ := flow.Neg(f)
		for _, c := range calls()[:3] {
			bothLike(t, c, f, z, g, z, neg)
		}
	}
}

// cutAt tells whether a place lies on the cut of a Corner that is not whole.
func cutAt(f api.Flow, z complex128) bool {
	for _, x := range f.Elements {
		if d := sub(z, x.At); isBroken(x) && real(d) < 0 && imag(d) == 0 {
			return true
		}
	}
	return false
}

func TestP16_7Mirror(t *testing.T) {
	d := newDice()
	cut, asked := 0, 0
	for range 40000 {
		f := d.flow(1+d.below(5), d.element)
		z := d.about(f)
		if cutAt(f, z) {
			cut++
			continue
		}
		g, _ := flow.Conj(f)
		bothLike(t, calls()[1], f, z, g, conj(z), conj)
		bothLike(t, calls()[2], f, z, g, conj(z), conj)
		asked++
	}
	if cut < 500 || asked < 20000 {
		t.Errorf("only %d on a cut, %d beside it", cut, asked)
	}
}

func TestP16_7Places(t *testing.T) {
	d := newDice()
	found := 0
	for range 10000 {
		f := d.flow(d.below(6), d.element)
		places, _ := flow.Places(f)
		for i, z := range places {
			wantCall(t, calls()[1], f, z, 0, api.ErrPlace)
			found++
			if i > 0 && !(real(places[i-1]) < real(z) || real(places[i-1]) == real(z) && imag(places[i-1]) < imag(z)) {
				t.Errorf("Places of %x are no row: %x", f, places)
			}
		}
		for _, x := range f.Elements {
			if element.Single(x) && !hasLike(places, x.At) {
				t.Errorf("Places of %x lack %x: %x", f, x.At, places)
			}
		}
	}
	if found < 10000 {
		t.Errorf("only %d places", found)
	}
}

func hasLike(l list, z complex128) bool {
	for _, p := range l {
		if like(p, z) {
			return true
		}
	}
	return false
}

func TestP16_7WayAndPress(t *testing.T) {
	d := newDice()
	told := 0
	for range 20000 {
		f := d.flow(d.below(5), d.element)
		z, far := d.about(f), d.number()
		v, e := flow.Speed(f, z)
		if e == api.OK {
			wantCall(t, calls()[3], f, z, conj(v), api.OK)
		} else {
			wantCall(t, calls()[3], f, z, 0, e)
		}
		if p, e := flow.Press(f, far, z); e == api.OK {
			told++
			if !(p <= 0.5*square(far)) {
				t.Errorf("Press of %x, %x, at %x: %x", f, far, z, p)
			}
		}
	}
	if told < 10000 {
		t.Errorf("only %d pressures", told)
	}
}

// small is one of the elements of the last rule.
func (d *dice) small() api.Element {
	at, s := d.wholes(4), d.wholes(8)
	switch d.below(3) {
	case 0:
		return stream(s)
	case 1:
		return doublet(at, s, float64(1+d.below(2)))
	}
	return corner(at, s, float64(1+d.below(3)))
}

func length(a complex128) float64 { return math.Hypot(real(a), imag(a)) }

func wantNear(t *testing.T, f api.Flow, z complex128) {
	t.Helper()
	r, ok, e := flow.Fraction(f)
	if !ok || e != api.OK {
		t.Fatalf("Fraction of %v: %v, %t, %d", f, r, ok, int(e))
	}
	v, e := ratio.At(r, z)
	w, g := flow.Speed(f, z)
	sum := 0.0
	for _, x := range f.Elements {
		u, _ := element.Speed(x, z)
		sum += length(u)
	}
	if e != api.OK || g != api.OK || !(math.Abs(real(v)-real(w)) <= 0x1p-40*sum && math.Abs(imag(v)-imag(w)) <= 0x1p-40*sum) {
		t.Errorf("Fraction of %v at %v: %v, %d; Speed: %v, %d", f, z, v, int(e), w, int(g))
	}
}

func TestP16_7FractionIsSpeed(t *testing.T) {
	d := newDice()
	asked := 0
	for range 60000 {
		f := d.flow(d.below(4), d.small)
		z := d.wholes(4)
		apart := true
		for _, x := range f.Elements {
			apart = apart && (x.Kind == api.Stream || x.At != z)
		}
		if apart {
			wantNear(t, f, z)
			asked++
		}
	}
	if asked < 40000 {
		t.Errorf("only %d", asked)
	}
	// The farthest places, the greatest strengths; and some that lie together.
	for _, s := range []complex128{8 + 8i, -8 + 8i, 8} {
		for _, at := range []complex128{4 + 4i, -4 - 4i, 4 - 4i, 4i} {
			for _, z := range []complex128{-4 + 3i, 3 - 4i, 0} {
				wantNear(t, of(doublet(at, s, 2), doublet(-at, s, 2), doublet(at*1i, -s, 2)), z)
				wantNear(t, of(doublet(at, s, 2), doublet(at, -s, 1), corner(-at, s, 3)), z)
				wantNear(t, of(corner(at, s, 3), corner(at, -s, 3), doublet(at, s, 1)), z)
			}
		}
	}
}
