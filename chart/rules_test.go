package chart_test

import (
	"math"
	"testing"

	"eddy/api"
	"eddy/chart"
)

// wantMany sees to it that enough was asked.
func wantMany(t *testing.T, told, atLeast int) {
	t.Helper()
	if told < atLeast {
		t.Errorf("no more than %d were told", told)
	}
}

func TestP18_7MoebiusThereAndBack(t *testing.T) {
	d, told := newDice(), 0
	for range 100000 {
		m, z := d.wholeMoebius(8), d.wholes(8)
		w, e := chart.At(m, z)
		if e != api.OK {
			continue
		}
		back, e := chart.Back(m, w, false)
		if e != api.OK {
			continue
		}
		told++
		if length(back-z) > 0x1p-20 {
			t.Errorf("%v there and back by %v: %v", z, m, back)
		}
	}
	wantMany(t, told, 99000)
}

func TestP18_7JoukowskiThereAndBack(t *testing.T) {
	for x := -8.0; x <= 8; x++ {
		for y := -8.0; y <= 8; y++ {
			m := joukowski(complex(x, y))
			if x == 0 && y == 0 {
				continue
			}
			for u := -8.0; u <= 8; u++ {
				for v := -8.0; v <= 8; v++ {
					checkOneOfTwo(t, m, complex(u, v))
				}
			}
		}
	}
}

// checkOneOfTwo wants the place again as one of both that come to where it comes to.
func checkOneOfTwo(t *testing.T, m api.Map, z complex128) {
	t.Helper()
	w, e := chart.At(m, z)
	if z == 0 {
		if e != api.ErrPlace {
			t.Errorf("At of %v, 0: %d", m, int(e))
		}
		return
	}
	nearest := infinite
	for _, other := range []bool{false, true} {
		if back, e := chart.Back(m, w, other); e == api.OK {
			nearest = math.Min(nearest, length(back-z))
		}
	}
	if e != api.OK || !(nearest <= 0x1p-14) {
		t.Errorf("%v there and back by %v: %v away, %d", z, m, nearest, int(e))
	}
}

// mustThen is both maps as one, which such numbers always make.
func mustThen(t *testing.T, m, n api.Map) api.Map {
	t.Helper()
	both, e := chart.Then(m, n)
	if e != api.OK {
		t.Errorf("Then of %v, %v: %d", m, n, int(e))
	}
	return both
}

// All of these numbers are whole and exact; noughts' signs hang on which two are taken together first.
func TestP18_7Then(t *testing.T) {
	d := newDice()
	for range 50000 {
		reach := 1 + d.below(8)
		l, m, n := d.wholeMoebius(reach), d.wholeMoebius(reach), d.wholeMoebius(reach)
		first, last := mustThen(t, mustThen(t, l, m), n), mustThen(t, l, mustThen(t, m, n))
		if !likeMaps(first, last) {
			t.Errorf("%v, %v, %v: %v, but %v", l, m, n, first, last)
		}
		turned, e := chart.Turned(m)
		if e != api.OK {
			t.Errorf("Turned of %v: %d", m, int(e))
		}
		determinant := m.A*m.D - m.B*m.C
		if both := mustThen(t, m, turned); !likeMaps(both, moebius(determinant, 0, 0, determinant)) {
			t.Errorf("%v, then turned: %v, the determinant is %v", m, both, determinant)
		}
		if both := mustThen(t, turned, m); !likeMaps(both, moebius(determinant, 0, 0, determinant)) {
			t.Errorf("%v turned, then it: %v, the determinant is %v", m, both, determinant)
		}
	}
}

func TestP18_7Three(t *testing.T) {
	d, told := newDice(), 0
	for range 50000 {
		var from, to three
		for i := range from {
			from[i], to[i] = d.wholes(8), d.wholes(8)
		}
		m, e := chart.Three(from, to)
		if e == api.ErrMap {
			continue // two are alike
		}
		told++
		for i, z := range from {
			w, f := chart.At(m, z)
			if e != api.OK || f != api.OK || length(w-to[i]) > 0x1p-30 {
				t.Errorf("Three of %v, %v takes %v to %v, %d, %d", from, to, z, w, int(e), int(f))
			}
		}
	}
	wantMany(t, told, 45000)
}

// checkBackThere wants w again of its Back's At.
func checkBackThere(t *testing.T, m api.Map, w complex128) (told int) {
	t.Helper()
	for _, other := range []bool{false, true} {
		z, e := chart.Back(m, w, other)
		if e != api.OK {
			continue
		}
		there, e := chart.At(m, z)
		if e != api.OK {
			continue
		}
		told++
		if length(there-w) > 0x1p-30*length(w) {
			t.Errorf("%v back (%t) and there by %v: %v", w, other, m, there)
		}
	}
	return told
}

func TestP18_8BackAndThere(t *testing.T) {
	d, powers, exps := newDice(), 0, 0
	for range 100000 {
		a, b, w, p := d.lengthy(), d.lengthy(), d.lengthy(), d.power()
		if d.below(4) == 0 {
			a = 1
		}
		exps += checkBackThere(t, exp(a, b), w)
		turn := math.Abs(math.Atan2(imag(w/a), real(w/a)))
		if turn <= 3.14159 && turn <= 3.14159*p {
			powers += checkBackThere(t, power(a, d.nought(), p), w)
		}
	}
	wantMany(t, powers, 80000)
	wantMany(t, exps, 190000)
}

// checkMirror wants At and Slope of the mirrored map to be mirrored, and the same errors.
func checkMirror(t *testing.T, m api.Map, z complex128) {
	t.Helper()
	for i, call := range []func(api.Map, complex128) (complex128, api.Errno){chart.At, chart.Slope} {
		w, e := call(m, z)
		v, f := call(mirrored(m), conj(z))
		if e != f || !like(v, conj(w)) {
			t.Errorf("%d: by %x from %x to %x, %d, but in the mirror to %x, %d", i, m, z, w, int(e), v, int(f))
		}
	}
}

func TestP18_8Mirror(t *testing.T) {
	d := newDice()
	for range 100000 {
		m, z := d.good(), d.place()
		if d.below(10) == 0 {
			z = m.B
		}
		gap := sub(z, m.B)
		if m.Kind == api.MapPower && m.Power != math.Floor(m.Power) && imag(gap) == 0 && real(gap) < 0 {
			continue
		}
		checkMirror(t, m, z)
	}
	// Of whole powers on the real line, too.
	for _, p := range []float64{1, 2, 3, 4} {
		for _, side := range noughts {
			for _, z := range []complex128{-3, 0, 3} {
				checkMirror(t, power(2-1i, 1+side, p), z+side)
			}
		}
	}
}

func TestP18_8Cross(t *testing.T) {
	d, told := newDice(), 0
	for range 100000 {
		reach := []int{2, 8, 1000}[d.below(3)]
		var l, moved [4]complex128
		by := d.wholes(1000)
		for i := range l {
			l[i] = d.wholes(reach)
			moved[i] = add(l[i], by)
		}
		ratio, e := chart.Cross(l[0], l[1], l[2], l[3])
		wantCross(t, moved, ratio, e)
		if e == api.OK {
			told++
		}
	}
	wantMany(t, told, 80000)
}
