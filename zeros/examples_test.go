package zeros_test

import (
	"math"
	"testing"

	"eddy/api"
	"eddy/poly"
	"eddy/zeros"
)

func isNear(a, b complex128, most float64) bool {
	return math.Hypot(real(a)-real(b), imag(a)-imag(b)) <= most
}

// The chapter's table, row by row.
func TestExamplesOfPlaces(t *testing.T) {
	z, e := zeros.Begin(list{-1, 0, 1})
	b, _ := poly.Bound(list{-1, 0, 1})
	side := b / 2 * math.Sqrt2 / 2
	if e != api.OK || len(z) != 2 || !isNear(z[0], complex(side, side), 1e-15) || !isNear(z[1], complex(-side, -side), 1e-15) {
		t.Errorf("Begin: %v, %d", z, int(e))
	}
	wantBegin(t, list{5}, list{}, api.OK)
	wantBegin(t, list{0}, nil, api.ErrPlace)

	wantRound(t, list{-1, 0, 1}, list{1, -1}, list{1, -1}, api.OK)
	wantRound(t, list{-1, 0, 1}, list{1}, nil, api.ErrMany)
	wantRound(t, list{-1, 0, 1}, list{1, complex(none, 0)}, nil, api.ErrReal)
}

func TestExamplesOfZeros(t *testing.T) {
	z, n, e := zeros.All(list{-6, 1, 1}, 100)
	if e != api.OK || n < 2 || len(z) != 2 || !isNear(z[0], -3, 1e-14) || !isNear(z[1], 2, 1e-14) {
		t.Errorf("All: %v, %d, %d", z, n, int(e))
	}
	wantAll(t, list{-6, 1, 1}, 1, nil, 0, api.ErrSteps)
	wantAll(t, list{-6, 1, 1}, 0, nil, 0, api.ErrArg)
	wantAll(t, list{5}, 3, list{}, 0, api.OK)

	wantPolish(t, list{-2, 0, 1}, 1, 0, 1, api.OK)
	wantPolish(t, list{-2, 0, 1}, 1, 1, 1.5, api.OK)
	if z, e := zeros.Polish(list{-2, 0, 1}, 1, 9); e != api.OK || !isNear(z, 1.4142135623730951, 0x1p-52) {
		t.Errorf("Polish: %v, %d", z, int(e))
	}

	wantRadius(t, list{-2, 0, 1}, 1, 1, api.OK)
	wantRadius(t, list{-2, 0, 1}, 0, 0, api.ErrPlace)
	wantRadius(t, list{-4, 0, 1}, 2, 0, api.OK)
	wantRadius(t, list{3}, 1, 0, api.ErrPlace)

	wantZeros(t, list{2, -3, 1}, 1, 2)
	wantZeros(t, list{1, 0, 1}, -1i, 1i)
	wantSquare(t, list{0, 0, 1}, 0, 0, api.OK)
	wantSquare(t, list{1, 1}, 0, 0, api.ErrPoly)
}
