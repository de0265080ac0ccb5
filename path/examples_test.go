package path_test

import (
	"testing"

	"eddy/api"
	"eddy/path"
)

// The rows of the chapter's table, in its order.
func TestExamples(t *testing.T) {
	back, e := path.Back(q())
	wantList(t, "Back", list{0, 2i, 2 + 2i, 2}, api.OK, back, e)
	wantRound(t, q(), 1+1i, 1, api.OK)
	wantRound(t, back, 1+1i, -1, api.OK)
	wantRound(t, q(), 3, 0, api.OK)
	wantRound(t, q(), 2+1i, 0, api.ErrOn)
	wantRound(t, q(), 0, 0, api.ErrOn)

	wantRound(t, list{3i, -2 - 3i, 3 + 1i, -3 + 1i, 2 - 3i}, 0, 2, api.OK)

	wantSide(t, 0, 2, 1+1i, 1, api.OK)
	wantSide(t, 0, 2, 1-1i, -1, api.OK)
	wantSide(t, 0, 2, 7, 0, api.OK)
	wantSide(t, 1, 1, 5, 0, api.OK)
	wantSide(t, 0, 0.1+0.3i, 0.3+0.9i, 1, api.OK)

	wantBox(t, api.Box{High: 2 + 2i}, q(), api.OK)
	wantBox(t, api.Box{High: 2}, nil, api.ErrPath)

	wantLength(t, q(), 8, api.OK)
	wantArea(t, q(), 4, api.OK)

	wantCheck(t, list{0, 1}, api.ErrMany)
	wantCheck(t, list{0, 1, 1}, api.ErrPath)
	wantCheck(t, list{0, 1, complex(none, 0)}, api.ErrReal)
	wantCheck(t, list{0, 1, complex(minusNought, 0)}, api.ErrPath)
}

// 1, 1i, -1, -1i, as they round: next to nought, not nought.
func TestExampleOfACircle(t *testing.T) {
	l, e := path.Circle(api.Circle{Radius: 1}, 4)
	if e != api.OK || len(l) != 4 {
		t.Fatalf("%v, %d", l, int(e))
	}
	for i, z := range []complex128{1, 1i, -1, -1i} {
		off := l[i] - z
		if x, y := real(off), imag(off); x*x+y*y > 0x1p-100 {
			t.Errorf("%v, not %v", l[i], z)
		}
	}
	wantArea(t, l, 2, api.OK)
}
