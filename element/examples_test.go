package element_test

import (
	"testing"

	"eddy/api"
	"eddy/element"
)

// nearly tells where a call answers a number that is not nearly, in both parts, what it ought to be.
func nearly(t *testing.T, c call, x api.Element, z, ought complex128) {
	t.Helper()
	got, e := c.does(x, z)
	far := got - ought
	if e != api.OK || !(worth(real(far)) <= 0x1p-48 && worth(imag(far)) <= 0x1p-48) {
		t.Errorf("%s of %v at %v: %v, %d, not nearly %v", c.name, x, z, got, int(e), ought)
	}
}

// exactly is nearly, but to the bit, noughts alike.
func exactly(t *testing.T, c call, x api.Element, z, ought complex128) {
	t.Helper()
	if got, e := c.does(x, z); e != api.OK || !like(got, ought) {
		t.Errorf("%s of %v at %v: %v, %d, not %v", c.name, x, z, got, int(e), ought)
	}
}

// The rows of the chapter's table, in its order.
func TestExamplesOfValues(t *testing.T) {
	potential, speed, slope := calls()[0], calls()[1], calls()[2]
	below := func(x float64) complex128 { return complex(x, minusNought) }

	exactly(t, potential, stream(2), 1+1i, 2+2i)
	exactly(t, speed, stream(2), 1+1i, 2)
	exactly(t, slope, stream(2), 1+1i, 0)

	whirl := source(0, complex(2*half, 0))
	nearly(t, speed, whirl, 1i, -1i)
	wantCall(t, speed, whirl, 0, 0, api.ErrPlace)
	nearly(t, potential, whirl, -1, complex(0, half))
	nearly(t, potential, whirl, below(-1), complex(0, -half))

	exactly(t, potential, doublet(0, 1, 1), 2, 0.5)
	exactly(t, speed, doublet(0, 1, 1), 2, -0.25)

	exactly(t, speed, corner(1, 1, 2), 1, 0)
	exactly(t, speed, corner(1, 1, 1), 1, 1)
	wantCall(t, speed, corner(1, 1, 0.5), 1, 0, api.ErrPlace)
	wantCall(t, speed, corner(1, 1, 1.5), 1, 0, api.OK)

	nearly(t, speed, corner(0, 1, 0.5), -4, -0.25i)
	nearly(t, speed, corner(0, 1, 0.5), below(-4), 0.25i)
}

func TestExamplesOfElements(t *testing.T) {
	for i, x := range []api.Element{
		{}, {Kind: api.Stream, At: 1}, {Kind: api.Source, Power: 1},
		doublet(0, 1, 0), doublet(0, 1, 1.5), doublet(0, 1, 9), corner(0, 1, 0.2), corner(0, 1, 5),
	} {
		if e := element.Check(x); e != api.ErrElement {
			t.Errorf("Check, number %d: %d", i, int(e))
		}
	}
	if e := element.Check(source(0, complex(none, 0))); e != api.ErrReal {
		t.Errorf("Check of a Strength that is no number: %d", int(e))
	}

	x := source(3i, 1+2i)
	got, e := element.Conj(x)
	wantElement(t, "Conj", got, e, source(complex(0, -3), 1-2i), api.OK)
	got, e = element.Neg(x)
	wantElement(t, "Neg", got, e, source(3i, -1-2i), api.OK)
	got, e = element.Moved(x, 1)
	wantElement(t, "Moved", got, e, source(1+3i, 1+2i), api.OK)
	got, e = element.Moved(source(farthest, 1), farthest)
	wantElement(t, "Moved", got, e, api.Element{}, api.ErrReal)

	for _, c := range []struct {
		x     api.Element
		ought bool
	}{{x, true}, {corner(0, 1, 0.5), true}, {corner(0, 1, 1), false}, {corner(0, 1, 2), false}} {
		if element.Single(c.x) != c.ought {
			t.Errorf("Single(%v)", c.x)
		}
	}
}
