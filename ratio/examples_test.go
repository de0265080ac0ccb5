package ratio_test

import (
	"testing"

	"eddy/api"
	"eddy/ratio"
)

// The chapter's table, row by row; where it says 0, the sign of the nought is not told.
func TestExamplesOfValues(t *testing.T) {
	wantCheck(t, of(list{1}, list{0, 1}), api.OK)
	wantCheck(t, of(list{1}, list{0}), api.ErrPoly)
	wantCheck(t, of(list{}, list{1}), api.ErrPoly)
	wantCheck(t, of(list{1, 0}, list{1}), api.ErrPoly)

	f := of(list{1}, list{0, 1})
	if v, e := ratio.At(f, 2); v != 0.5 || e != api.OK {
		t.Error(v, int(e))
	}
	wantAt(t, f, 0, 0, api.ErrPlace)
	wantAt(t, f, complex(none, 0), 0, api.ErrReal)
}

func TestExamplesOfFractions(t *testing.T) {
	like := func(ought fraction, oughtE api.Errno) func(fraction, api.Errno) {
		return func(got fraction, e api.Errno) {
			t.Helper()
			if e != oughtE || !likeFractions(got, ought) {
				t.Errorf("%v, %d, not %v, %d", got, int(e), ought, int(oughtE))
			}
		}
	}
	f := of(list{1}, list{0, 1})
	like(of(list{-1}, list{0, 0, 1}), api.OK)(ratio.Slope(f))
	like(of(list{1, 1}, list{0, 1}), api.OK)(ratio.Add(f, of(list{1}, list{1})))
	like(of(list{0, 1}, list{0, 1}), api.OK)(ratio.Mul(f, of(list{0, 1}, list{1})))
	like(of(list{0, 1}, list{1}), api.OK)(ratio.Turned(f))
	like(fraction{}, api.ErrPlace)(ratio.Turned(of(list{0}, list{1})))

	like(of(list{5}, list{1}), api.OK)(ratio.Of(nil, list{5}))
	like(of(list{0}, list{1}), api.OK)(ratio.Of(nil, nil))
	like(of(list{1}, list{0, 1}), api.OK)(ratio.Of([]pole{{At: 0, Residue: 1}}, list{0}))
	like(of(list{0, 2}, list{-1, 0, 1}), api.OK)(ratio.Of([]pole{{At: 1, Residue: 1}, {At: -1, Residue: 1}}, nil))
}

func TestExamplesOfPoles(t *testing.T) {
	f := of(list{1}, list{-1, 0, 1})
	l, e := ratio.Poles(f, list{1, -1})
	if e != api.OK || len(l) != 2 || l[0] != (pole{At: 1, Residue: 0.5}) || l[1] != (pole{At: -1, Residue: -0.5}) {
		t.Errorf("%v, %d", l, int(e))
	}
	wantPoles(t, f, list{1}, nil, api.ErrMany)
	wantPoles(t, of(list{1}, list{0, 0, 1}), list{0, 0}, nil, api.ErrPlace)
}
