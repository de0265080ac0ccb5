package schwarz_test

import (
	"testing"

	"eddy/api"
	"eddy/schwarz"
)

const spare = 3

// roomy is l with spare room, in which something stands.
func roomy(l floats) floats {
	out := append(make(floats, 0, len(l)+spare), l...)
	for range spare {
		out = append(out, 77)
	}
	return out[:len(l)]
}

// untouched tells whether a roomy list is what it was made of.
func untouched(r, l floats) bool {
	for i, x := range r[:len(l)+spare] {
		if i < len(l) && !sameFloats(x, l[i]) || i >= len(l) && x != 77 {
			return false
		}
	}
	return true
}

func TestHandedInIsNotChanged(t *testing.T) {
	shapes := []shape{triangle(), square(0, 1, 2, 3), even(16), near(1), {floats{3, 2, 1}, floats{0.25, 0.5, 0.25}}}
	for _, c := range wrong() {
		shapes = append(shapes, c.shape)
	}
	for _, s := range shapes {
		at, angles := roomy(s.at), roomy(s.angles)
		schwarz.Check(at, angles)
		for _, z := range []complex128{0.25 + 1i, 0, -1i} {
			schwarz.Slope(at, angles, z)
			schwarz.Between(at, angles, z, 2i, 3)
		}
		for _, pieces := range []int{0, 1, 5} {
			schwarz.Corners(at, angles, pieces)
		}
		if !untouched(at, s.at) || !untouched(angles, s.angles) {
			t.Errorf("%x is %x, %x now", s, at, angles)
		}
	}
}

func TestAnswersAreNew(t *testing.T) {
	s := square(0, 1, 2, 3)
	at, angles := roomy(s.at), roomy(s.angles)
	l, e := schwarz.Corners(at, angles, 4)
	if e != api.OK {
		t.Fatal(int(e))
	}
	kept := append(list{}, l...)
	for i := range at {
		at[i], angles[i] = 5, 5
	}
	if !sameLists(l, kept) {
		t.Errorf("the corners hang on what was handed in: %x", l)
	}
	for i := range l[:cap(l)] {
		l[:cap(l)][i] = 7 - 7i
	}
	wantCorners(t, s, 4, kept, api.OK)
}
