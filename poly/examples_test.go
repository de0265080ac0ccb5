package poly_test

import (
	"testing"

	"eddy/api"
	"eddy/poly"
)

// The chapter's table; where it says 0, the sign of the nought is not told.
func TestExamplesOfValues(t *testing.T) {
	for i, r := range []struct {
		l list
		e api.Errno
	}{
		{list{}, api.ErrPoly}, {list{0}, api.OK}, {list{1, 0}, api.ErrPoly}, {list{0, 0, 1}, api.OK}, {filled(66, 1), api.ErrPoly}, {list{complex(none, 0), 1}, api.ErrPoly},
	} {
		if e := poly.Check(r.l); e != r.e {
			t.Error(i, int(e))
		}
	}
	wantAt(t, list{1, 2, 3}, 2, 17, api.OK)
	if v, e := poly.At(list{1, 0, 1}, 1i); v != 0 || e != api.OK {
		t.Error(v, int(e))
	}
	wantBoth(t, list{1, 2, 3}, 2, 17, 14, api.OK)
	wantBound(t, list{5}, 0, api.OK)
	wantBound(t, list{0}, 0, api.ErrPlace)
	wantBound(t, list{6, -5, 1}, 7.000000000000003, api.OK)
}

func TestExamplesOfLists(t *testing.T) {
	like := func(ought list, oughtE api.Errno) func(list, api.Errno) {
		return func(got list, e api.Errno) {
			t.Helper()
			if e != oughtE || !likeLists(got, ought) {
				t.Errorf("%v, %d, not %v, %d", got, int(e), ought, int(oughtE))
			}
		}
	}
	like(list{2, 6}, api.OK)(poly.Slope(list{1, 2, 3}))
	like(list{0}, api.OK)(poly.Slope(list{5}))
	like(list{2}, api.OK)(poly.Add(list{1, 2}, list{1, -2}))
	like(list{1, 0, 1}, api.OK)(poly.Add(list{1}, list{0, 0, 1}))
	like(list{-1, 0, 1}, api.OK)(poly.Mul(list{1, 1}, list{-1, 1}))
	like(list{0}, api.OK)(poly.Mul(list{0}, list{1, 2}))
	like(nil, api.ErrMany)(poly.Mul(ending(40, 1), ending(40, 1)))
	like(nil, api.ErrPlace)(poly.Mul(list{1 << 30}, list{1 << 30}))
	like(list{1}, api.OK)(poly.Of(nil))
	like(list{2, -3, 1}, api.OK)(poly.Of(list{1, 2}))
	like(list{1, 0, 1}, api.OK)(poly.Of(list{1i, -1i}))
	like(list{1, 2, 1}, api.OK)(poly.Shift(list{0, 0, 1}, 1))
	like(list{2, -4, 3}, api.OK)(poly.Shift(list{1, 2, 3}, -1))
	like(list{7}, api.OK)(poly.Shift(list{7}, 5))

	likeBoth := func(oughtQ, oughtR list, oughtE api.Errno) func(q, r list, e api.Errno) {
		return func(q, r list, e api.Errno) {
			t.Helper()
			like(oughtQ, oughtE)(q, e)
			like(oughtR, oughtE)(r, e)
		}
	}
	likeBoth(list{-1, 1}, list{0}, api.OK)(poly.Div(list{-1, 0, 1}, list{1, 1}))
	likeBoth(list{0}, list{1}, api.OK)(poly.Div(list{1}, list{0, 1}))
	likeBoth(nil, nil, api.ErrPlace)(poly.Div(list{1}, list{0}))
}
