package schwarz_test

import (
	"testing"

	"eddy/api"
	"eddy/schwarz"
)

func TestExamplesOfCheck(t *testing.T) {
	wantCheck(t, shape{floats{-1, 0, 1}, floats{0.5, 0.25, 0.25}}, api.OK)
	wantCheck(t, shape{floats{0, 1}, floats{0.5, 0.5}}, api.ErrMany)
	wantCheck(t, shape{floats{0, 1, 1}, floats{0.5, 0.25, 0.25}}, api.ErrPolygon)
	wantCheck(t, shape{floats{0, 1, 2}, floats{1, 1, 1}}, api.ErrPolygon)
	wantCheck(t, shape{floats{0, 1, 2}, floats{0.5, 0.5}}, api.ErrMany)
}

func TestExamplesOfSlope(t *testing.T) {
	wantSlope(t, triangle(), complex(0, -1), 0, api.ErrPlace)
	wantSlope(t, triangle(), complex(-1, 0), 0, api.ErrPlace)
	wantSlope(t, triangle(), complex(none, 0), 0, api.ErrReal)
}

func TestExamplesOfBetween(t *testing.T) {
	s := triangle()
	if w, e := schwarz.Between(s.at, s.angles, 1i, 1i, 3); e != api.OK || !like(w, 0) {
		t.Errorf("Between of (0, 1), (0, 1), 3: %v, %d", w, int(e))
	}
	wantBetween(t, s, 1i, 1i, 0, 0, api.ErrArg)
}

func TestExamplesOfCorners(t *testing.T) {
	l, e := schwarz.Corners(floats{-1, 0, 1, 2}, floats{0.5, 0.5, 0.5, 0.5}, 1)
	if e != api.OK || len(l) != 4 || !same(l[0], 0) {
		t.Errorf("Corners: %v, %d", l, int(e))
	}
}

func TestExamplesOfStrip(t *testing.T) {
	if w, e := schwarz.Strip(1, 2); e != api.OK || !like(w, 0) {
		t.Errorf("Strip of (1, 0), 2: %v, %d", w, int(e))
	}
	if w, e := schwarz.Strip(complex(-1, minusNought), 2); e != api.OK || length(w-2i) > 1e-14 {
		t.Errorf("Strip of (-1, -0), 2: %v, %d", w, int(e))
	}
	wantStrip(t, 0, 2, 0, api.ErrPlace)
	wantBack(t, 0, 2, 1, api.OK)
	wantBack(t, complex(0, 3), 2, 0, api.ErrPlace)
}
