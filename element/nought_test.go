package element_test

import (
	"testing"

	"eddy/api"
	"eddy/element"
)

// strengths have noughts among them: where there is no value, that of a strength of nought is none, too.
func strengths() []complex128 {
	l := []complex128{1, -1, 1i, 3 - 2i, complex(farthest, -farthest), complex(-least, 0), complex(0, 5), complex(minusNought, -1)}
	return append(l, noughts...)
}

// where are pairs of an At and a place whose difference is nought, of each sign that it may have.
func where() [][2]complex128 {
	var l [][2]complex128
	for _, at := range noughts {
		for _, z := range noughts {
			l = append(l, [2]complex128{at, z})
		}
	}
	for _, z := range []complex128{1, -1i, 3 - 2i, complex(farthest, -farthest), complex(minusNought, 7), complex(least, minusNought), 0.1 + 0.2i} {
		l = append(l, [2]complex128{z, z})
	}
	return l
}

// everyNought asks something of elements that lie just where they are asked.
func everyNought(ask func(at, s, z complex128)) {
	for _, w := range where() {
		for _, s := range strengths() {
			ask(w[0], s, w[1])
		}
	}
}

func TestP15_2SourcesAndDoublets(t *testing.T) {
	everyNought(func(at, s, z complex128) {
		for _, c := range calls() {
			wantCall(t, c, source(at, s), z, 0, api.ErrPlace)
			for n := range 8 {
				wantCall(t, c, doublet(at, s, float64(n+1)), z, 0, api.ErrPlace)
			}
		}
	})
}

// Noughts without a minus, whatever signs the strength and d have.
func TestP15_2BrokenPowers(t *testing.T) {
	everyNought(func(at, s, z complex128) {
		for _, p := range brokenPowers() {
			x := corner(at, s, p)
			speed, slope := api.OK, api.OK
			if p < 1 {
				speed = api.ErrPlace
			}
			if p < 2 {
				slope = api.ErrPlace
			}
			wantCall(t, calls()[0], x, z, 0, api.OK)
			wantCall(t, calls()[1], x, z, 0, speed)
			wantCall(t, calls()[2], x, z, 0, slope)
		}
	})
}

// Of whole powers the products tell, and all have a value.
func TestP15_2WholePowers(t *testing.T) {
	everyNought(func(at, s, z complex128) {
		for _, r := range []struct {
			p            float64
			speed, slope complex128
		}{
			{1, s, 0},
			{2, 0, scale(s, 2)},
			{3, 0, 0},
			{4, 0, 0},
		} {
			x := corner(at, s, r.p)
			wantSteps(t, x, z)
			for i, ought := range []complex128{0, r.speed, r.slope} {
				if got, e := calls()[i].does(x, z); e != api.OK || !like(got, ought) {
					t.Errorf("%s of %x at %x: %x, %d, not %x", calls()[i].name, x, z, got, int(e), ought)
				}
			}
		}
	})
}

// Next to where an element lies there is a value again, be it ever so near: a Source's potential, the speed of a Corner.
func TestP15_2NextToIt(t *testing.T) {
	for _, z := range []complex128{least, complex(0, least), complex(-least, minusNought), complex(minusNought, -least)} {
		for _, s := range []complex128{1, 3 - 2i} {
			if v, e := element.Potential(source(0, s), z); e != api.OK || v == 0 {
				t.Errorf("Potential of the Source %v at %x: %x, %d", s, z, v, int(e))
			}
			for _, p := range brokenPowers() {
				wantSteps(t, corner(0, s, p), z)
				if v, e := element.Potential(corner(0, s, 0.25), z); e != api.OK || v == 0 {
					t.Errorf("Potential of the Corner %v at %x: %x, %d", s, z, v, int(e))
				}
				if v, e := element.Speed(corner(0, s, 0.75), z); e != api.OK || v == 0 {
					t.Errorf("Speed of the Corner %v at %x: %x, %d", s, z, v, int(e))
				}
			}
		}
	}
}

// A Stream has no place, and its values at nought are what they are elsewhere.
func TestP15_2Stream(t *testing.T) {
	everyNought(func(at, s, z complex128) {
		x := stream(s)
		wantSteps(t, x, z)
		wantCall(t, calls()[1], x, z, s, api.OK)
	})
}

// Both parts of d must be nought: straight above, below and beside it there are values.
func TestP15_2OnePartNought(t *testing.T) {
	at := 2 - 3i
	for _, d := range []complex128{1, -1, 1i, -1i} {
		for _, x := range alike(at, 1-2i) {
			z := at + d
			wantSteps(t, x, z)
			for _, c := range calls() {
				if _, e := c.does(x, z); e != api.OK {
					t.Errorf("%s of %v at %v: %d", c.name, x, z, int(e))
				}
			}
		}
	}
}
