package element_test

import (
	"math"
	"testing"

	"eddy/api"
	"eddy/element"
)

// refusal is P15.1's words, one behind the other.
func refusal(x api.Element) api.Errno {
	if x.Kind < 1 || x.Kind > 4 {
		return api.ErrElement
	}
	for _, c := range []float64{real(x.At), imag(x.At), real(x.Strength), imag(x.Strength), x.Power} {
		if !(c >= -0x1p40 && c <= 0x1p40) {
			return api.ErrReal
		}
	}
	if mayHave(x.Kind, x.At, x.Power) {
		return api.OK
	}
	return api.ErrElement
}

func mayHave(kind uint8, at complex128, p float64) bool {
	switch kind {
	case api.Stream:
		return at == 0 && p == 0
	case api.Source:
		return p == 0
	case api.Doublet:
		for n := range 8 {
			if p == float64(n+1) {
				return true
			}
		}
		return false
	}
	return 0.25 <= p && p <= 4
}

// wantRefusal asks every call of an element: each tells what is wrong with it ahead of all else, and answers nothing beside that.
func wantRefusal(t *testing.T, x api.Element, ought api.Errno) {
	t.Helper()
	if e := element.Check(x); e != ought {
		t.Errorf("Check(%x): %d, not %d", x, int(e), int(ought))
	}
	if ought == api.OK {
		return
	}
	for _, z := range []complex128{1 - 2i, x.At, complex(none, 0), complex(0, infinite)} {
		for _, c := range calls() {
			wantCall(t, c, x, z, 0, ought)
		}
		got, e := element.Moved(x, z)
		wantElement(t, "Moved", got, e, api.Element{}, ought)
	}
	got, e := element.Conj(x)
	wantElement(t, "Conj", got, e, api.Element{}, ought)
	got, e = element.Neg(x)
	wantElement(t, "Neg", got, e, api.Element{}, ought)
	if element.Single(x) {
		t.Errorf("Single(%x)", x)
	}
}

// edges are parts that may be and parts that may not.
func edges() []float64 {
	return []float64{0, minusNought, 1, -1, least, farthest, -farthest, beyond, -beyond, infinite, -infinite, none, greatest}
}

func TestP15_1CheckEdges(t *testing.T) {
	powers := append(brokenPowers(), edges()...)
	for n := range 10 {
		p := float64(n)
		powers = append(powers, p, -p, math.Nextafter(p, -1), math.Nextafter(p, 99))
	}
	powers = append(powers, 0.2, 5, 7.5, 0x1p-30, math.Nextafter(0.25, 0), math.Nextafter(0.25, 1))
	for kind := range 256 {
		for _, p := range powers {
			for _, c := range edges() {
				for _, x := range []api.Element{{}, {At: complex(c, 0)}, {At: complex(0, c)}, {Strength: complex(c, 0)}, {Strength: complex(0, c)}} {
					x.Kind, x.Power = uint8(kind), p
					if e, ought := element.Check(x), refusal(x); e != ought {
						t.Fatalf("Check(%x): %d, not %d", x, int(e), int(ought))
					}
				}
			}
		}
	}
}

func TestP15_1CheckOfMany(t *testing.T) {
	d := newDice()
	for range 20000 {
		x := d.element()
		wantRefusal(t, x, api.OK)
		for range 1 + d.below(2) { // something goes wrong, or two things
			c := edges()[d.below(13)]
			switch d.below(5) {
			case 0:
				x.Kind = uint8(d.below(6))
			case 1:
				x.At = complex(c, imag(x.At))
			case 2:
				x.At = complex(real(x.At), c)
			case 3:
				x.Strength = complex(c, c)
			case 4:
				x.Power = c
			}
		}
		wantRefusal(t, x, refusal(x))
	}
}

// What may be and what may not, written out.
func TestP15_1Check(t *testing.T) {
	for _, c := range []struct {
		x     api.Element
		ought api.Errno
	}{
		{stream(2), api.OK},
		{stream(0), api.OK},
		{api.Element{Kind: api.Stream, At: complex(minusNought, minusNought), Power: minusNought}, api.OK},
		{api.Element{Kind: api.Stream, At: 1}, api.ErrElement},
		{api.Element{Kind: api.Stream, At: 1i}, api.ErrElement},
		{api.Element{Kind: api.Stream, At: complex(0, -least)}, api.ErrElement},
		{api.Element{Kind: api.Stream, Power: 1}, api.ErrElement},
		{api.Element{Kind: api.Stream, Power: -least}, api.ErrElement},
		{source(1+2i, 3i), api.OK},
		{api.Element{Kind: api.Source, Power: minusNought}, api.OK},
		{api.Element{Kind: api.Source, Power: 1}, api.ErrElement},
		{api.Element{Kind: api.Source, Power: least}, api.ErrElement},
		{doublet(1, 1, 0), api.ErrElement},
		{doublet(1, 1, minusNought), api.ErrElement},
		{doublet(1, 1, 1), api.OK},
		{doublet(1, 1, 8), api.OK},
		{doublet(1, 1, 9), api.ErrElement},
		{doublet(1, 1, -1), api.ErrElement},
		{doublet(1, 1, 1.5), api.ErrElement},
		{doublet(1, 1, math.Nextafter(8, 9)), api.ErrElement},
		{doublet(1, 1, math.Nextafter(1, 0)), api.ErrElement},
		{doublet(1, 1, farthest), api.ErrElement},
		{corner(1, 1, 0.25), api.OK},
		{corner(1, 1, math.Nextafter(0.25, 0)), api.ErrElement},
		{corner(1, 1, 4), api.OK},
		{corner(1, 1, math.Nextafter(4, 5)), api.ErrElement},
		{corner(1, 1, 0), api.ErrElement},
		{corner(1, 1, -1), api.ErrElement},
		{corner(1, 1, 1), api.OK},
		{corner(1, 1, 1.5), api.OK},
		{source(complex(farthest, -farthest), complex(-farthest, farthest)), api.OK},
		{source(complex(beyond, 0), 1), api.ErrReal},
		{source(complex(0, -beyond), 1), api.ErrReal},
		{source(0, complex(-beyond, 0)), api.ErrReal},
		{source(0, complex(0, beyond)), api.ErrReal},
		{source(complex(none, 0), 1), api.ErrReal},
		{source(1, complex(0, infinite)), api.ErrReal},
		{corner(0, 1, none), api.ErrReal},
		{corner(0, 1, infinite), api.ErrReal},
		{doublet(0, 1, beyond), api.ErrReal},
		{stream(complex(0, none)), api.ErrReal},
	} {
		wantRefusal(t, c.x, c.ought)
	}
}

// Where two things are wrong: a kind that is none counts ahead of floats, these ahead of what the kind may not have.
func TestP15_1OrderOfErrors(t *testing.T) {
	for _, kind := range []uint8{0, 5, 100, 255} {
		wantRefusal(t, api.Element{Kind: kind}, api.ErrElement)
		wantRefusal(t, api.Element{Kind: kind, At: complex(none, 0), Strength: complex(0, infinite), Power: beyond}, api.ErrElement)
	}
	for _, x := range []api.Element{
		{Kind: api.Stream, At: 1, Strength: complex(none, 0)},
		{Kind: api.Stream, At: complex(infinite, 0)},
		{Kind: api.Stream, Power: none},
		{Kind: api.Source, At: complex(0, none), Power: 1},
		{Kind: api.Source, Power: infinite},
		{Kind: api.Doublet, Strength: complex(0, none), Power: 9},
		{Kind: api.Doublet, Power: none},
		{Kind: api.Doublet, Power: beyond},
		{Kind: api.Corner, At: complex(beyond, 0)},
		{Kind: api.Corner, Power: -infinite},
	} {
		wantRefusal(t, x, api.ErrReal)
	}
}

// A place that is none is ErrReal, ahead of a value that there is not.
func TestP15_1Places(t *testing.T) {
	for _, x := range alike(0, 1-1i) {
		for _, c := range []float64{beyond, -beyond, infinite, -infinite, none, greatest} {
			for _, z := range []complex128{complex(c, 0), complex(0, c), complex(c, c)} {
				for _, f := range calls() {
					wantCall(t, f, x, z, 0, api.ErrReal)
				}
			}
		}
		for _, z := range []complex128{farthest, -farthest, complex(0, farthest), complex(0, -farthest), complex(farthest, -farthest)} {
			wantSteps(t, x, z)
			for _, f := range calls() {
				if _, e := f.does(x, z); e != api.OK {
					t.Errorf("%s of %v at %x: %d", f.name, x, z, int(e))
				}
			}
		}
	}
}

// What is not finite is not told, be it that a power vanishes or that a quotient or a product leaves the floats.
func TestP15_1NotFinite(t *testing.T) {
	const gone = api.ErrPlace
	for _, c := range []struct {
		x     api.Element
		z     complex128
		ought [3]api.Errno
	}{
		{doublet(0, 1, 8), 0x1p-100, [3]api.Errno{}},
		{doublet(0, 1, 8), 0x1p-110, [3]api.Errno{2: gone}},
		{doublet(0, 1, 8), 0x1p-120, [3]api.Errno{1: gone, 2: gone}},
		{doublet(0, 1, 8), 0x1p-130, [3]api.Errno{gone, gone, gone}},
		{doublet(0, 0, 8), 0x1p-200, [3]api.Errno{gone, gone, gone}}, // nought over a power that vanishes
		{doublet(0, 0, 1), 0x1p-500, [3]api.Errno{2: gone}},
		{doublet(0, 0, 1), 0x1p-300, [3]api.Errno{}},
		{doublet(0, 0x1p-51, 1), least, [3]api.Errno{1: gone, 2: gone}},
		{doublet(0, 0x1p-50, 1), least, [3]api.Errno{gone, gone, gone}},
		{doublet(0, complex(0, 0x1p-50), 1), least, [3]api.Errno{gone, gone, gone}},
		{doublet(0, complex(0, farthest), 1), complex(0, 0x1p-990), [3]api.Errno{gone, gone, gone}},
		{corner(0, 1, 0.25), complex(0, -least), [3]api.Errno{2: gone}},
		{corner(0, 0, 0.25), complex(0, -least), [3]api.Errno{2: gone}}, // nought times what is infinite
		{corner(0, 1, 0.25), 0x1p-580, [3]api.Errno{}},
		{corner(0, farthest, 0.25), 0x1p-580, [3]api.Errno{2: gone}},
		{corner(0, complex(0, -farthest), 0.25), 0x1p-580, [3]api.Errno{2: gone}},
		{corner(0, 1, 0.5), least, [3]api.Errno{2: gone}},
		{corner(0, 1, 1.5), least, [3]api.Errno{}},
	} {
		wantSteps(t, c.x, c.z)
		for i, f := range calls() {
			if _, e := f.does(c.x, c.z); e != c.ought[i] {
				t.Errorf("%s of %v at %x: %d, not %d", f.name, c.x, c.z, int(e), int(c.ought[i]))
			}
		}
	}
}

// A Source's logarithm is finite wherever it may be asked; its quotients are not.
func TestP15_1NearASource(t *testing.T) {
	for _, z := range []complex128{least, complex(0, -least), complex(-least, least)} {
		for _, s := range []complex128{0, 1, complex(farthest, -farthest)} {
			x := source(0, s)
			wantSteps(t, x, z)
			if _, e := element.Potential(x, z); e != api.OK {
				t.Errorf("Potential of %x at %x: %d", x, z, int(e))
			}
			if v, e := element.Speed(x, z); (e == api.OK) != (s == 0) {
				t.Errorf("Speed of %x at %x: %x, %d", x, z, v, int(e))
			}
			wantCall(t, calls()[2], x, z, 0, api.ErrPlace)
		}
	}
}
