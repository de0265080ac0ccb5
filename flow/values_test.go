package flow_test

import (
	"math"
	"testing"

	"eddy/api"
	"eddy/element"
	"eddy/flow"
)

// The operations as calls that are not inlined: none of them can be fused with another one.

//go:noinline
func plus(x, y float64) float64 { return x + y }

//go:noinline
func minus(x, y float64) float64 { return x - y }

//go:noinline
func times(x, y float64) float64 { return x * y }

//go:noinline
func over(x, y float64) float64 { return x / y }

func add(a, b complex128) complex128 {
	return complex(plus(real(a), real(b)), plus(imag(a), imag(b)))
}

func conj(a complex128) complex128 { return complex(real(a), -imag(a)) }

func neg(a complex128) complex128 { return complex(-real(a), -imag(a)) }

func square(a complex128) float64 {
	return plus(times(real(a), real(a)), times(imag(a), imag(a)))
}

// tellsOne are element's calls, in the order of this package's.
func tellsOne() []func(api.Element, complex128) (complex128, api.Errno) {
	return []func(api.Element, complex128) (complex128, api.Errno){element.Potential, element.Speed, element.Slope}
}

// sumSteps are P16.2's words of one of these calls, at a place.
func sumSteps(one func(api.Element, complex128) (complex128, api.Errno), f api.Flow, z complex128) (complex128, api.Errno) {
	var sum complex128
	for i, x := range f.Elements {
		v, e := one(x, z)
		if e != api.OK {
			return 0, e
		}
		if i == 0 {
			sum = v
		} else {
			sum = add(sum, v)
		}
	}
	if !isFinite(sum) {
		return 0, api.ErrPlace
	}
	return sum, api.OK
}

// wantSums holds all calls at a place against P16.2's words.
func wantSums(t *testing.T, f api.Flow, far, z complex128) {
	t.Helper()
	var sums [3]complex128
	var refusals [3]api.Errno
	for i, one := range tellsOne() {
		sums[i], refusals[i] = sumSteps(one, f, z)
		wantCall(t, calls()[i], f, z, sums[i], refusals[i])
	}
	wantStream(t, f, z, imag(sums[0]), refusals[0])
	if refusals[1] != api.OK {
		wantCall(t, calls()[3], f, z, 0, refusals[1])
		wantPress(t, f, far, z, 0, refusals[1])
		return
	}
	wantCall(t, calls()[3], f, z, conj(sums[1]), api.OK)
	if p := times(0.5, minus(square(far), square(sums[1]))); math.Abs(p) <= greatest {
		wantPress(t, f, far, z, p, api.OK)
	} else {
		wantPress(t, f, far, z, 0, api.ErrPlace)
	}
}

func TestP16_2BySteps(t *testing.T) {
	d := newDice()
	gone, finite := 0, 0
	for range 60000 {
		f := d.flow(d.below(6), d.element)
		z := d.about(f)
		wantSums(t, f, d.number(), z)
		if _, e := flow.Slope(f, z); e == api.OK {
			finite++
		} else {
			gone++
		}
	}
	if gone < 5000 || finite < 20000 {
		t.Errorf("only %d without a slope, %d with one", gone, finite)
	}
}

func TestP16_2OfManyElements(t *testing.T) {
	d := newDice()
	for i := range 60 {
		f := d.flow(many-i%3, d.element)
		wantSums(t, f, d.number(), d.number())
	}
}

func TestP16_2None(t *testing.T) {
	for _, f := range []api.Flow{{}, {Elements: []api.Element{}}} {
		for _, z := range append(append(list{1, 2 - 3i}, noughts...), edgePlaces...) {
			for _, c := range calls()[:3] {
				wantCall(t, c, f, z, 0, api.OK)
			}
			wantCall(t, calls()[3], f, z, complex(0, minusNought), api.OK) // Conj turns a nought's sign, too
			wantStream(t, f, z, 0, api.OK)
			wantPress(t, f, 3-4i, z, 12.5, api.OK)
			wantPress(t, f, z, 1, 0.5*square(z), api.OK)
		}
	}
}

// One element alone is not added to a nought, which would take the minus from its own.
func TestP16_2One(t *testing.T) {
	for _, s := range append(list{complex(1, minusNought), complex(minusNought, -1)}, noughts...) {
		f := of(stream(s))
		wantCall(t, calls()[1], f, 5, s, api.OK)
		wantCall(t, calls()[3], f, 5, conj(s), api.OK)
		wantSums(t, f, 1, 5)
	}
	minusBoth := noughts[3]
	wantCall(t, calls()[1], repeated(3, stream(minusBoth)), 5, minusBoth, api.OK)
	wantCall(t, calls()[1], of(stream(minusBoth), stream(0), stream(minusBoth)), 5, 0, api.OK)
}

// Sums that come out otherwise from the right, or in another order.
func TestP16_2FromTheLeft(t *testing.T) {
	const great = 0x1p39             // half a unit of its last place is 2^-14
	below := doublet(0, -0x1p-14, 1) // at 1: the speed 2^-14, the slope -2^-13
	for _, c := range []struct {
		f     api.Flow
		ought complex128
	}{
		{of(stream(great), stream(0x1p-14), stream(0x1p-14)), great},
		{of(stream(0x1p-14), stream(0x1p-14), stream(great)), great + 0x1p-13},
		{of(stream(great), stream(0x1p-14), stream(-great)), 0},
		{of(stream(great), stream(-great), stream(0x1p-14)), 0x1p-14},
		{of(stream(great*1i), below, stream(-great*1i), below), 0x1p-13},
		{of(stream(great), below, below), great},
		{of(below, below, stream(great)), great + 0x1p-13},
	} {
		wantCall(t, calls()[1], c.f, 1, c.ought, api.OK)
		wantSums(t, c.f, 1, 1)
	}
	// Potentials and slopes of Corners of the power 2: s z^2 and 2 s.
	for i, by := range []complex128{1, 2} {
		i *= 2
		wantCall(t, calls()[i], of(corner(0, great, 2), corner(0, 0x1p-14, 2), corner(0, -great, 2)), 1, 0, api.OK)
		wantCall(t, calls()[i], of(corner(0, great, 2), corner(0, -great, 2), corner(0, 0x1p-14, 2)), 1, by*0x1p-14, api.OK)
		wantCall(t, calls()[i], of(corner(0, 1i*great, 2), corner(0, 0x1p-14i, 2), corner(0, 0x1p-14i, 2)), 1, by*great*1i, api.OK)
	}
}

func TestP16_2NoPlace(t *testing.T) {
	d := newDice()
	flows := []api.Flow{of(), of(stream(1)), of(source(0, 1)), of(source(farthest, 1)), repeated(many, corner(1, 1, 0.5))}
	for range 20 {
		flows = append(flows, d.flow(d.below(5), d.element))
	}
	for _, f := range flows {
		for _, z := range noPlaces {
			for _, c := range calls() {
				wantCall(t, c, f, z, 0, api.ErrReal)
			}
			wantStream(t, f, z, 0, api.ErrReal)
			wantPress(t, f, 1, z, 0, api.ErrReal)
			wantPress(t, f, z, 1, 0, api.ErrReal)
			wantPress(t, f, z, z, 0, api.ErrReal)
			for _, x := range f.Elements { // a place that is none counts ahead of one without a value
				wantPress(t, f, z, x.At, 0, api.ErrReal)
			}
		}
		for _, z := range edgePlaces {
			wantSums(t, f, z, z)
			wantSums(t, f, z, 1-1i)
			wantSums(t, f, 1-1i, z)
		}
	}
	for _, z := range edgePlaces {
		for _, c := range calls()[:3] {
			if _, e := c.does(of(source(1, 1), doublet(2i, 3, 8), corner(0, 1, 4)), z); e != api.OK {
				t.Errorf("%s at %v: %d", c.name, z, int(e))
			}
		}
	}
}

// Where one element has no value, all have none, be it the first one, the last one or one amid others.
func TestP16_2AtAPlaceWithoutAValue(t *testing.T) {
	single := func(at, s complex128) []api.Element {
		return []api.Element{source(at, s), doublet(at, s, 1), doublet(at, s, 8)}
	}
	for _, at := range append(list{1 + 2i, -farthest}, noughts...) {
		for _, s := range []complex128{1, 0, -1i} {
			for _, x := range single(at, s) {
				for _, f := range []api.Flow{of(x), of(x, stream(1)), of(stream(1), x), of(stream(1), x, corner(0, 1, 2)), of(x, x), of(x, source(at, -s))} {
					for _, z := range append(list{at}, noughts...) {
						if !like(z, at) {
							continue
						}
						for _, c := range calls() {
							wantCall(t, c, f, z, 0, api.ErrPlace)
						}
						wantStream(t, f, z, 0, api.ErrPlace)
						wantPress(t, f, 1, z, 0, api.ErrPlace)
					}
				}
			}
		}
	}
	// Of a Corner the potential is told where the speed is not.
	f := of(stream(2), corner(3, 1, 0.5))
	wantCall(t, calls()[0], f, 3, 6, api.OK)
	wantStream(t, f, 3, 0, api.OK)
	for _, c := range calls()[1:] {
		wantCall(t, c, f, 3, 0, api.ErrPlace)
	}
	wantPress(t, f, 1, 3, 0, api.ErrPlace)
	f = of(stream(2), corner(3, 1, 1.5)) // and here the speed, where the slope is not
	wantCall(t, calls()[1], f, 3, 2, api.OK)
	wantCall(t, calls()[2], f, 3, 0, api.ErrPlace)
}

// At 2^-511 the speed of a simple Doublet is 2^1022 times its strength: of a few together there is none, and none comes back.
func TestP16_2SumNotFinite(t *testing.T) {
	const z = 0x1p-511
	for _, turn := range []complex128{1, -1, 1i, -1i} {
		up, down := doublet(0, -turn, 1), doublet(0, turn, 1)
		wantCall(t, calls()[1], of(up), z, turn*0x1p1022, api.OK)
		wantCall(t, calls()[1], of(up, up, up), z, turn*0x1.8p1023, api.OK)
		for _, f := range []api.Flow{of(up, up, up, up), of(up, up, up, up, down, down, down, down), of(up, up, up, up, stream(1))} {
			wantCall(t, calls()[1], f, z, 0, api.ErrPlace)
			wantCall(t, calls()[3], f, z, 0, api.ErrPlace)
			wantPress(t, f, 1, z, 0, api.ErrPlace)
			if _, e := flow.Potential(f, z); e != api.OK {
				t.Errorf("Potential of %v: %d", f, int(e))
			}
		}
		if v, e := flow.Speed(of(up, down, up, down, up, down, up, down), z); !like(v, 0) || e != api.OK {
			t.Errorf("Speed, one against the other: %x, %d", v, int(e))
		}
		twofold := doublet(0, turn, 2) // its potential there is 2^1022 times its strength, its speed none
		wantCall(t, calls()[0], repeated(3, twofold), z, turn*0x1.8p1023, api.OK)
		wantStream(t, repeated(3, twofold), z, imag(turn)*0x1.8p1023, api.OK)
		wantCall(t, calls()[0], repeated(4, twofold), z, 0, api.ErrPlace)
		wantStream(t, repeated(4, twofold), z, 0, api.ErrPlace)
		wantCall(t, calls()[1], of(stream(1), twofold), z, 0, api.ErrPlace)
		beyond := doublet(0, turn*0x1p2, 2) // one potential that is none
		wantCall(t, calls()[0], of(stream(1), beyond), z, 0, api.ErrPlace)
		wantStream(t, of(beyond, stream(1)), z, 0, api.ErrPlace)
		const w = 0x1p-340 // the slope of a simple Doublet there is 2^1021 times its strength
		wantCall(t, calls()[2], repeated(7, down), w, turn*0x1.cp1023, api.OK)
		wantCall(t, calls()[2], repeated(8, down), w, 0, api.ErrPlace)
	}
}

func TestP16_2Way(t *testing.T) {
	wantCall(t, calls()[3], of(stream(1+2i)), 0, 1-2i, api.OK)
	wantCall(t, calls()[3], of(stream(complex(minusNought, -3))), 0, complex(minusNought, 3), api.OK)
	wantCall(t, calls()[3], of(stream(1), doublet(0, 1, 1)), 2i, complex(1.25, minusNought), api.OK)
}

func TestP16_2Stream(t *testing.T) {
	wantStream(t, of(stream(1)), 3+4i, 4, api.OK)
	wantStream(t, of(stream(1i)), 3+4i, 3, api.OK)
	wantStream(t, of(stream(1), doublet(0, 1, 1)), 2i, 1.5, api.OK)
	wantStream(t, of(source(0, complex(2*half, 0))), 1i, half/2, api.OK)
}

func TestP16_2Press(t *testing.T) {
	body := of(stream(1), doublet(0, 1, 1))
	for _, c := range []struct {
		f      api.Flow
		far, z complex128
		ought  float64
		e      api.Errno
	}{
		{body, 1, 1, 0.5, api.OK},
		{body, 1, 1i, -1.5, api.OK},
		{body, 1, 2, 0.21875, api.OK},
		{body, 3 - 4i, 2, 12.21875, api.OK},
		{body, 0, 2, -0.28125, api.OK},
		{of(stream(1)), 1, 5, 0, api.OK},
		{of(stream(3 - 4i)), 5i, 5, 0, api.OK},
		{of(stream(farthest)), complex(farthest, -farthest), 0, 0x1p79, api.OK},
		{of(stream(complex(farthest, farthest))), 0, 0, -0x1p80, api.OK},
		{of(stream(0x1p-14 + 1)), 1, 0, -0x1p-14 - 0x1p-29, api.OK},
		{of(stream(1)), farthest, 0, 0x1p79 - 0.5, api.OK}, // the half is lost
		{body, 1, 0, 0, api.ErrPlace},
		{body, noPlaces[0], 0, 0, api.ErrReal},
		{body, 1, 0x1p-255, 0.5 * (1 - 0x1p1020), api.OK},
		{body, 1, 0x1p-256, 0, api.ErrPlace}, // the speed is told there, not its square
		{of(stream(1), doublet(0, 1i, 1)), 1, 0x1p-256, 0, api.ErrPlace},
		{body, complex(farthest, farthest), 0x1p-256, 0, api.ErrPlace},
	} {
		wantPress(t, c.f, c.far, c.z, c.ought, c.e)
	}
	// So small that halves are lost: the difference, 2 times 2^-1074, is halved, not what it is made of, 3 and 1.
	wantPress(t, of(stream(0x1p-537)), complex(0x1p-537, 0x1.7p-537), 0, least, api.OK)
	if v, e := flow.Speed(body, 0x1p-256); e != api.OK {
		t.Errorf("Speed at 2^-256: %x, %d", v, int(e))
	}
}
