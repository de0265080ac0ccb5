package flow_test

import (
	"math"
	"testing"

	"eddy/api"
	"eddy/flow"
)

// The chapter's names.
var (
	ofS = stream(1)
	ofD = doublet(0, 1, 1)
	ofW = source(0, complex(2*half, 0))
)

// exactly is wantCall, but noughts are alike.
func exactly(t *testing.T, c call, f api.Flow, z, ought complex128) {
	t.Helper()
	if got, e := c.does(f, z); e != api.OK || !like(got, ought) {
		t.Errorf("%s of %v at %v: %v, %d, not %v", c.name, f, z, got, int(e), ought)
	}
}

// The rows of the chapter's table, in its order.
func TestExamplesOfValues(t *testing.T) {
	speed, way := calls()[1], calls()[3]
	exactly(t, speed, of(), 1, 0)
	exactly(t, speed, of(ofS, ofD), 2, 0.75)
	wantCall(t, speed, of(ofS, ofD), 0, 0, api.ErrPlace)
	wantCall(t, speed, of(ofS, ofD), complex(none, 0), 0, api.ErrReal)
	wantCall(t, speed, of(ofS, ofD), complex(0, none), 0, api.ErrReal)

	exactly(t, way, of(stream(1+2i)), 0, 1-2i)
	wantStream(t, of(ofS), 3+4i, 4, api.OK)
	wantPress(t, of(ofS, ofD), 1, 1, 0.5, api.OK)
	wantPress(t, of(ofS), 1, 5, 0, api.OK)
}

func TestExamplesOfFlows(t *testing.T) {
	wantAdd(t, of(ofS), of(ofD), of(ofS, ofD), api.OK)
	wantAdd(t, repeated(200, ofS), repeated(57, ofD), api.Flow{}, api.ErrMany)
	wantCheck(t, repeated(257, ofS), api.ErrFlow)

	wantPlaces(t, of(ofD, ofW), list{0}, api.OK)
	wantPlaces(t, of(ofS), nil, api.OK)
	wantPlaces(t, of(corner(1, 1, 0.5), corner(3, 1, 2)), list{1}, api.OK)
}

func TestExamplesOfFractions(t *testing.T) {
	wantLike(t, of(ofS, ofD), list{-1, 0, 1}, list{0, 0, 1})
	wantLike(t, of(), list{0}, list{1})
	wantFraction(t, of(corner(0, 1, 0.5)), api.Fraction{}, false, api.OK)

	got, ok, e := flow.Fraction(of(ofD, ofW))
	if !ok || e != api.OK || len(got.Top) != 2 || !likeLists(got.Bottom, list{0, 0, 1}) {
		t.Fatalf("Fraction of D and W: %v, %t, %d", got, ok, int(e))
	}
	for i, ought := range []complex128{-1, 1} {
		if far := got.Top[i] - ought; !(math.Hypot(real(far), imag(far)) <= 0x1p-48) {
			t.Errorf("Fraction of D and W: %v", got)
		}
	}
}
