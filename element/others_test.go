package element_test

import (
	"testing"

	"eddy/api"
	"eddy/element"
)

// The signs are turned of noughts, too; the Power stays, a nought's sign with it.
func TestP15_3ConjAndNeg(t *testing.T) {
	d := newDice()
	for range 20000 {
		x := d.element()
		at, s := x.At, x.Strength
		got, e := element.Conj(x)
		wantElement(t, "Conj", got, e, api.Element{Kind: x.Kind, At: complex(real(at), -imag(at)), Strength: complex(real(s), -imag(s)), Power: x.Power}, api.OK)
		got, e = element.Neg(x)
		wantElement(t, "Neg", got, e, api.Element{Kind: x.Kind, At: at, Strength: complex(-real(s), -imag(s)), Power: x.Power}, api.OK)
	}
}

func TestP15_3ConjAndNegTwice(t *testing.T) {
	d := newDice()
	for range 20000 {
		x := d.element()
		y, _ := element.Conj(x)
		got, e := element.Conj(y)
		wantElement(t, "Conj of Conj", got, e, x, api.OK)
		y, _ = element.Neg(x)
		got, e = element.Neg(y)
		wantElement(t, "Neg of Neg", got, e, x, api.OK)
	}
}

func TestP15_3Moved(t *testing.T) {
	d := newDice()
	moved, far := 0, 0
	for range 40000 {
		x, by := d.element(), d.number()
		got, e := element.Moved(x, by)
		if x.Kind == api.Stream {
			wantElement(t, "Moved", got, e, x, api.OK)
			continue
		}
		ought := x
		ought.At = complex(plus(real(x.At), real(by)), plus(imag(x.At), imag(by)))
		if refusal(ought) != api.OK {
			wantElement(t, "Moved", got, e, api.Element{}, api.ErrReal)
			far++
			continue
		}
		wantElement(t, "Moved", got, e, ought, api.OK)
		moved++
	}
	if moved < 10000 || far < 100 {
		t.Errorf("only %d moved, %d moved too far", moved, far)
	}
}

func wantMoved(t *testing.T, x api.Element, by, at complex128, refusal api.Errno) {
	t.Helper()
	ought := x
	ought.At = at
	if refusal != api.OK {
		ought = api.Element{}
	}
	got, e := element.Moved(x, by)
	wantElement(t, "Moved", got, e, ought, refusal)
}

func TestP15_3MovedEdges(t *testing.T) {
	for _, x := range alike(1+3i, 1-2i) {
		for _, c := range []float64{beyond, -beyond, infinite, -infinite, none, greatest} {
			wantMoved(t, x, complex(c, 0), 0, api.ErrReal)
			wantMoved(t, x, complex(1, c), 0, api.ErrReal)
		}
		if x.Kind == api.Stream {
			wantMoved(t, x, 7, 0, api.OK)
			wantMoved(t, x, complex(farthest, -farthest), 0, api.OK)
			continue
		}
		wantMoved(t, x, 1, 2+3i, api.OK)
		wantMoved(t, x, complex(farthest-1, -farthest), complex(farthest, 3-farthest), api.OK)
		wantMoved(t, x, complex(-farthest, farthest-3), complex(1-farthest, farthest), api.OK)
		wantMoved(t, x, farthest, 0, api.ErrReal)
		wantMoved(t, x, complex(0, farthest), 0, api.ErrReal)
	}
	// beyond the greatest real, but not for long: the sum is rounded to it
	wantMoved(t, source(farthest, 1), 0x1p-14, farthest, api.OK)
	wantMoved(t, source(farthest, 1), 0x1p-12, 0, api.ErrReal)
	wantMoved(t, source(complex(0, -farthest), 1), complex(0, -farthest), 0, api.ErrReal)
	wantMoved(t, source(complex(farthest, -farthest), 1), complex(-farthest, farthest), 0, api.OK)
	// noughts: only two minus ones make a minus one
	wantMoved(t, source(complex(minusNought, minusNought), 1), complex(minusNought, 0), complex(minusNought, 0), api.OK)
}

// A Stream's noughts stay as they are, signs and all.
func TestP15_3MovedStream(t *testing.T) {
	for _, at := range noughts {
		x := api.Element{Kind: api.Stream, At: at, Strength: 1 - 1i, Power: minusNought}
		for _, by := range append([]complex128{0, 1 + 1i, farthest}, noughts...) {
			wantMoved(t, x, by, at, api.OK)
		}
		wantMoved(t, x, complex(0, beyond), 0, api.ErrReal)
	}
}

func TestP15_4Single(t *testing.T) {
	for _, c := range []struct {
		x     api.Element
		ought bool
	}{
		{stream(1), false},
		{source(1+2i, 1), true},
		{source(0, 0), true}, // whatever its strength
		{doublet(1, 1, 1), true},
		{doublet(1, 0, 8), true},
		{doublet(1, 1, 9), false},
		{doublet(1, 1, 1.5), false},
		{doublet(1, 1, 0), false},
		{corner(0, 1, 0.25), true},
		{corner(0, 0, 0.5), true},
		{corner(0, 1, 0.9999999999999999), true},
		{corner(0, 1, 1), false},
		{corner(0, 1, 1.0000000000000002), false},
		{corner(0, 1, 2), false},
		{corner(0, 1, 4), false},
		{corner(0, 1, 0.2), false},
		{corner(0, 1, -1), false},
		{api.Element{}, false},
		{api.Element{Kind: 5}, false},
		{api.Element{Kind: api.Source, Power: 1}, false},
		{source(complex(none, 0), 1), false},
		{source(0, complex(0, infinite)), false},
		{doublet(complex(0, beyond), 1, 1), false},
		{corner(0, complex(beyond, 0), 0.5), false},
		{corner(0, 1, none), false},
	} {
		if got := element.Single(c.x); got != c.ought {
			t.Errorf("Single(%x): %t", c.x, got)
		}
	}
}

// Single ones are those that may be and have no speed where they lie.
func TestP15_4SingleOfMany(t *testing.T) {
	d := newDice()
	for range 20000 {
		x := d.element()
		if _, e := element.Speed(x, x.At); element.Single(x) != (e == api.ErrPlace) {
			t.Errorf("Single(%x): %t, Speed where it lies: %d", x, element.Single(x), int(e))
		}
	}
}
