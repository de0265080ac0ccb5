package schwarz_test

import (
	"math"
	"testing"

	"eddy/api"
	"eddy/schwarz"
)

func TestP19_4Errors(t *testing.T) {
	for _, c := range wrong() {
		for _, pieces := range append(wrongPieces(), 1) {
			wantCorners(t, c.shape, pieces, nil, c.e)
		}
	}
	for _, pieces := range wrongPieces() {
		wantCorners(t, triangle(), pieces, nil, api.ErrArg)
		wantCorners(t, near(1), pieces, nil, api.ErrArg) // ahead of what comes up while working
	}
}

// near has two sharp corners so near to each other that each place between them falls on one.
func near(a float64) shape {
	return shape{floats{a - 2, a, math.Nextafter(a, infinite), a + 2}, floats{0.5, 0.5, 0.5, 0.5}}
}

func TestP19_4CornersTooNear(t *testing.T) {
	for _, pieces := range []int{1, 2, 7} {
		wantCorners(t, near(1), pieces, nil, api.ErrPlace)
		wantCorners(t, near(-0x1p30), pieces, nil, api.ErrPlace)
		last := near(1)
		last.at = append(floats{-2}, last.at[:3]...)
		wantCorners(t, last, pieces, nil, api.ErrPlace)
	}
	tiny := shape{floats{0, 0x1p-600, 0x1p-599}, floats{0.5, 0.25, 0.25}}
	wantCorners(t, tiny, 4, nil, api.ErrPlace)
}

func TestP19_4OneSideAfterAnother(t *testing.T) {
	d := newDice()
	for n := 3; n <= 16; n++ {
		for _, pieces := range []int{1, 2, 5} {
			s := shape{d.places(n), d.bends(n)}
			for i := range s.at {
				s.at[i] = float64(i) + 0.5*d.unit()
			}
			l, e := schwarz.Corners(s.at, s.angles, pieces)
			if e != api.OK || len(l) != n || !same(l[0], 0) {
				t.Fatalf("Corners of %x, %d: %x, %d", s, pieces, l, int(e))
			}
			for i := range n - 1 {
				side := mustBetween(t, s, complex(s.at[i], 0), complex(s.at[i+1], 0), pieces)
				if !same(l[i+1], add(l[i], side)) || side == 0 {
					t.Errorf("Corners of %x, %d: %x behind %x", s, pieces, l[i+1], l[i])
				}
			}
		}
	}
}

func TestP19_4MostPieces(t *testing.T) {
	s := triangle()
	told, e := cornersSteps(s, steps)
	wantCorners(t, s, steps, told, e)
	if e != api.OK {
		t.Errorf("the steps tell %d", int(e))
	}
}

// A minus nought among the places is a place like another; the first corner has none.
func TestP19_4MinusNoughts(t *testing.T) {
	for _, at := range []floats{{minusNought, 1, 2, 3}, {-1, minusNought, 1, 2}, {-3, -2, -1, minusNought}} {
		plain := append(floats{}, at...)
		for i := range plain {
			plain[i] += 0
		}
		l, e := schwarz.Corners(plain, square().angles, 3)
		if e != api.OK || !same(l[0], 0) {
			t.Errorf("Corners of %v: %x, %d", plain, l, int(e))
		}
		wantCorners(t, square(at...), 3, l, api.OK)
	}
}

// Places in the mirror of each other make two sides that are as long and go against each other, and one across them.
func TestP19_4MirroredPlaces(t *testing.T) {
	l, e := schwarz.Corners(floats{-2.5, -1, 1, 2.5}, square().angles, 500)
	if e != api.OK {
		t.Fatal(int(e))
	}
	one, two, three := l[1]-l[0], l[2]-l[1], l[3]-l[2]
	if length(one) < 0.1 || math.Abs(real(one)*real(two)+imag(one)*imag(two)) > 1e-12 || math.Abs(real(one)*imag(two)-imag(one)*real(two)) < 0.1 {
		t.Errorf("%v and %v", one, two)
	}
	if length(one+three) > 1e-9 {
		t.Errorf("%v and %v", one, three)
	}
}
