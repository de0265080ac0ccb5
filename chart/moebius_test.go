package chart_test

import (
	"testing"

	"eddy/api"
	"eddy/chart"
)

func TestP18_4Then(t *testing.T) {
	over, twice, on := moebius(0, 1, 1, 0), moebius(2, 0, 0, 1), moebius(1, 3, 0, 1)
	for _, r := range []struct{ m, n, both api.Map }{
		{over, over, moebius(1, 0, 0, 1)},
		{twice, on, moebius(2, 3, 0, 1)}, // first m: 2 z, and then 3 more
		{on, twice, moebius(2, 6, 0, 1)},
		{over, on, moebius(3, 1, 1, 0)},
		{on, over, moebius(0, 1, 1, 3)},
		{moebius(1, 2, 3, 4), moebius(5, 6, 7, 8), moebius(23, 34, 31, 46)},
		{moebius(5, 6, 7, 8), moebius(1, 2, 3, 4), moebius(19, 22, 43, 50)},
		{moebius(1i, 2, 0, 1), moebius(1, 0, 1i, 1-1i), moebius(1i, 2, -1, 1+1i)},
	} {
		both, e := chart.Then(r.m, r.n)
		if e != api.OK || !likeMaps(both, r.both) {
			t.Errorf("%v, then %v: %v, %d, not %v", r.m, r.n, both, int(e), r.both)
		}
	}
	// The power is nought without a minus, whatever both have.
	minusOver := over
	minusOver.Power = minusNought
	wantThen(t, minusOver, minusOver, moebius(1, 0, 0, 1), api.OK)
	wantTurned(t, minusOver, moebius(0, neg(1), neg(1), 0), api.OK)
}

// others are maps of the other kinds.
func others() []api.Map {
	return []api.Map{joukowski(1), power(1, 0, 2), power(1, 0, 1), exp(1, 1)}
}

func TestP18_4Errors(t *testing.T) {
	over := moebius(0, 1, 1, 0)
	for _, o := range others() {
		wantThen(t, o, over, api.Map{}, api.ErrMap)
		wantThen(t, over, o, api.Map{}, api.ErrMap)
		wantThen(t, o, o, api.Map{}, api.ErrMap)
		wantTurned(t, o, api.Map{}, api.ErrMap)
	}
	for _, bad := range wrong() {
		wantTurned(t, bad.m, api.Map{}, bad.e)
		for _, x := range append(others(), over) {
			// Both are checked first, of whatever kind they are.
			wantThen(t, bad.m, x, api.Map{}, bad.e)
			wantThen(t, x, bad.m, api.Map{}, bad.e)
		}
		for _, worse := range wrong() {
			wantThen(t, bad.m, worse.m, api.Map{}, bad.e)
		}
	}
}

// One behind the other may be what may not be: too far out, or with a determinant that is too little.
func TestP18_4BothMayNotBe(t *testing.T) {
	far, near := moebius(0x1p21, 0, 0, 1), moebius(0x1p-300, 0, 0, 0x1p-300)
	for _, m := range []api.Map{far, near} {
		if e := chart.Check(m); e != api.OK {
			t.Errorf("Check of %v: %d", m, int(e))
		}
	}
	wantThen(t, far, far, api.Map{}, api.ErrReal)
	wantThen(t, near, near, api.Map{}, api.ErrMap)
	wantThen(t, moebius(0x1p20, 0, 0, 1), moebius(0x1p20, 0, 0, 1), moebius(farthest, 0, 0, 1), api.OK)
	wantThen(t, moebius(1, 0x1p30, 0, 1), moebius(1, 0, 0x1p30, 1), api.Map{}, api.ErrReal)
	wantThen(t, moebius(1, 0, 0x1p27, 1), moebius(1, 0x1p27, 0, 1), api.Map{}, api.ErrReal)
	wantThen(t, moebius(1, 0, 0x1p18, 1), moebius(0x1p-36, 0x1p-18, 0, 1), moebius(1+0x1p-36, 0x1p-18, 0x1p18, 1), api.OK)
	// A is 1 and 2^-60, rounded to 1: that makes the determinant nought.
	wantThen(t, moebius(1, 0, 0x1p18, 1), moebius(0x1p-60, 0x1p-18, 0, 1), api.Map{}, api.ErrMap)
}

func TestP18_4Turned(t *testing.T) {
	for _, r := range []struct{ m, back api.Map }{
		{moebius(0, 1, 1, 0), moebius(0, -1, -1, 0)},
		{moebius(1, 2, 3, 4), moebius(4, -2, -3, 1)},
		{moebius(1i, 2-1i, 0, 4), moebius(4, -2+1i, 0, 1i)},
		{moebius(farthest, 1, 0, -farthest), moebius(-farthest, -1, 0, farthest)},
	} {
		back, e := chart.Turned(r.m)
		if e != api.OK || !likeMaps(back, r.back) {
			t.Errorf("Turned of %v: %v, %d, not %v", r.m, back, int(e), r.back)
		}
	}
	// B's and C's noughts are turned, those of A and D stay.
	for _, o := range noughts {
		wantTurned(t, moebius(o, 1, 1i, o), moebius(o, neg(1), neg(1i), o), api.OK)
		wantTurned(t, moebius(1, o, o, 1i), moebius(1i, neg(o), neg(o), 1), api.OK)
	}
}

func TestP18_5NoPlaces(t *testing.T) {
	for _, bad := range noPlaces {
		for i := range 3 {
			l := three{1, 2, 3}
			l[i] = bad
			wantThree(t, l, three{1, 2, 3}, api.Map{}, api.ErrReal)
			wantThree(t, three{1, 2, 3}, l, api.Map{}, api.ErrReal)
			// Ahead of two that are alike, in either.
			wantThree(t, l, three{1, 1, 3}, api.Map{}, api.ErrReal)
			wantThree(t, three{1, 1, 3}, l, api.Map{}, api.ErrReal)
			m := l
			m[(i+1)%3] = l[(i+2)%3]
			wantThree(t, m, three{1, 2, 3}, api.Map{}, api.ErrReal)
			wantThree(t, three{1, 2, 3}, m, api.Map{}, api.ErrReal)
			wantThree(t, three{bad, bad, bad}, l, api.Map{}, api.ErrReal)
		}
	}
}

func TestP18_5Alike(t *testing.T) {
	fine := three{0, 1, 2i}
	for _, a := range append(append(list{1, 2 - 3i, least}, noughts...), edgePlaces...) {
		alikes := list{a}
		if isNought(a) {
			alikes = noughts
		}
		for _, b := range alikes {
			for _, l := range []three{{a, b, 5}, {a, 5, b}, {5, a, b}, {a, b, a}} {
				wantThree(t, l, fine, api.Map{}, api.ErrMap)
				wantThree(t, fine, l, api.Map{}, api.ErrMap)
				wantThree(t, l, l, api.Map{}, api.ErrMap)
				// Ahead of what Check says of the other one's map.
				wantThree(t, three{farthest, 1, 2}, l, api.Map{}, api.ErrMap)
			}
		}
	}
	// One part alike is not enough.
	for _, l := range []three{{0, 1i, 2i}, {0, 1, 2}, {1, 1i, 1 + 1i}, {0, 0x1p-30, 1}} {
		if _, e := chart.Three(l, fine); e != api.OK {
			t.Errorf("Three of %v, %v: %d", l, fine, int(e))
		}
		if _, e := chart.Three(fine, l); e != api.OK {
			t.Errorf("Three of %v, %v: %d", fine, l, int(e))
		}
	}
}

// Check refuses the map of three places that are too far from one another, or too near.
func TestP18_5Refused(t *testing.T) {
	far, near, fine := three{0x1p25, 0, 1}, three{0, 0x1p-600, 0x1p-599}, three{0, 1, 2}
	far[1] = -0x1p25
	for _, r := range []struct {
		from, to three
		e        api.Errno
	}{
		{far, fine, api.ErrReal}, {fine, far, api.ErrReal},
		{near, fine, api.ErrMap}, {fine, near, api.ErrMap},
		{far, near, api.ErrReal}, {near, far, api.ErrMap},
		{far, far, api.ErrReal}, {near, near, api.ErrMap},
		{three{farthest, -farthest, 0}, fine, api.ErrReal},
		{three{farthest, 1 - farthest, 0}, near, api.ErrReal},
	} {
		wantThree(t, r.from, r.to, api.Map{}, r.e)
	}
	// Each one of both may be, but not both together.
	wide, narrow := three{0, 0x1p15, 0x1p16}, three{0, 0x1p-200, 0x1p-199}
	for _, l := range []three{wide, narrow} {
		if _, e := chart.Three(l, fine); e != api.OK {
			t.Errorf("Three of %x, %v: %d", l, fine, int(e))
		}
		if _, e := chart.Three(fine, l); e != api.OK {
			t.Errorf("Three of %v, %x: %d", fine, l, int(e))
		}
	}
	wantThree(t, wide, wide, api.Map{}, api.ErrReal)
	wantThree(t, narrow, narrow, api.Map{}, api.ErrMap)
}

func TestP18_5Map(t *testing.T) {
	// Of 0, 1, 2 the map of three is -1, -0, 1, -2; turned -2, 0, -1, -1.
	wantThree(t, three{0, 1, 2}, three{0, 1, 2}, moebius(2, 0, 0, 2), api.OK)
	for _, r := range []struct{ from, to three }{
		{three{0, 1, 2}, three{1i, 5, -1}},
		{three{1, 1i, -1}, three{0, 1, -2}},
		{three{3 + 1i, 2, -7i}, three{-2, 4 + 4i, 1i}},
		{three{1000, 0, -0.001}, three{0.25i, 8, 9}},
	} {
		m, e := chart.Three(r.from, r.to)
		if e != api.OK || m.Kind != api.MapMoebius || m.Power != 0 {
			t.Errorf("Three of %v, %v: %v, %d", r.from, r.to, m, int(e))
			continue
		}
		for i, z := range r.from {
			w, e := chart.At(m, z)
			if e != api.OK || length(w-r.to[i]) > 1e-11 {
				t.Errorf("Three of %v, %v takes %v to %v, %d", r.from, r.to, z, w, int(e))
			}
		}
	}
}

func TestP18_6Cross(t *testing.T) {
	for _, r := range []struct {
		l     [4]complex128
		ratio complex128
	}{
		{[4]complex128{0, 1, 2, 3}, 4.0 / 3},
		{[4]complex128{1, 0, 2, 3}, 0.75},
		{[4]complex128{0, 1, 1i, -1}, 1 - 1i},
		{[4]complex128{2, 5, 2, 7}, 0},
		{[4]complex128{2, 5, 9, 5}, 0},
		{[4]complex128{7, 7, 9, 5}, 1},
		{[4]complex128{7, 9, 5, 5}, 1},
		{[4]complex128{farthest, -farthest, 0, 1}, complex((farthest+1)/(farthest-1), 0)},
		{[4]complex128{0x1p-537, 0, 0x1p-537, 0}, 0}, // by the least float
		{[4]complex128{0, farthest, 1, 0x1p-1000}, 0x1p1000 / (1 - 0x1p-40)},
	} {
		got, e := chart.Cross(r.l[0], r.l[1], r.l[2], r.l[3])
		if e != api.OK || length(got-r.ratio) > 1e-15*(1+length(r.ratio)) {
			t.Errorf("Cross of %v: %v, %d, not %v", r.l, got, int(e), r.ratio)
		}
	}
}

func TestP18_6Errors(t *testing.T) {
	for _, bad := range noPlaces {
		for i := range 4 {
			for _, l := range [][4]complex128{{0, 1, 2, 3}, {5, 5, 5, 5}} {
				l[i] = bad
				wantCross(t, l, 0, api.ErrReal)
			}
		}
	}
	for _, a := range append(append(list{3, -1i}, noughts...), edgePlaces...) {
		// a and d, b and c: where two of these are alike, it is nowhere, also where it would be nought by nought.
		wantCross(t, [4]complex128{a, 1, 2, a}, 0, api.ErrPlace)
		wantCross(t, [4]complex128{1, a, a, 2}, 0, api.ErrPlace)
		wantCross(t, [4]complex128{a, a, a, 1}, 0, api.ErrPlace)
		wantCross(t, [4]complex128{a, a, a, a}, 0, api.ErrPlace)
		wantCross(t, [4]complex128{a, 5, 5, a}, 0, api.ErrPlace)
	}
	for _, o := range noughts {
		for _, q := range noughts {
			wantCross(t, [4]complex128{o, 1, 2, q}, 0, api.ErrPlace)
			wantCross(t, [4]complex128{1, o, q, 2}, 0, api.ErrPlace)
		}
	}
	// What is below is too little for floats, or so little that the ratio is beyond all of them.
	wantCross(t, [4]complex128{0x1p-600, 0, 0x1p-600, 0}, 0, api.ErrPlace)
	wantCross(t, [4]complex128{0, farthest - 0x1p-12, farthest, 0x1p-1040}, 0, api.ErrPlace)
	wantCross(t, [4]complex128{0, farthest, 1, least}, 0, api.ErrPlace)
}
