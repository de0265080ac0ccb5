package chart_test

import (
	"math"
	"testing"

	"eddy/api"
	"eddy/chart"
)

// wantExample takes noughts alike; near ones may be off by very little.
func wantExample(t *testing.T, name string, got complex128, e api.Errno, ought complex128, refusal api.Errno) {
	t.Helper()
	if e != refusal || length(got-ought) > 1e-14 || refusal != api.OK && !same(got, 0) {
		t.Errorf("%s: %v, %d, not %v, %d", name, got, int(e), ought, int(refusal))
	}
}

// exactly are the examples that are told without 'nearly'.
func exactly(t *testing.T, name string, got complex128, e api.Errno, ought complex128) {
	t.Helper()
	if e != api.OK || !like(got, ought) {
		t.Errorf("%s: %v, %d, not %v", name, got, int(e), ought)
	}
}

func TestExamplesOfMoebius(t *testing.T) {
	over := moebius(0, 1, 1, 0)
	w, e := chart.At(over, 2i)
	exactly(t, "At(I, 2i)", w, e, -0.5i)
	w, e = chart.Slope(over, 2)
	exactly(t, "Slope(I, 2)", w, e, -0.25)
	w, e = chart.Back(over, 0, false)
	wantExample(t, "Back(I, 0, false)", w, e, 0, api.ErrBranch)
	w, e = chart.At(over, 0)
	wantExample(t, "At(I, 0)", w, e, 0, api.ErrPlace)
	w, e = chart.Back(over, 2, true)
	wantExample(t, "Back(I, 2, true)", w, e, 0, api.ErrBranch)
}

func TestExamplesOfJoukowski(t *testing.T) {
	w, e := chart.At(joukowski(1), 2)
	exactly(t, "At(J, 2)", w, e, 2.5)
	w, e = chart.Slope(joukowski(1), 1)
	exactly(t, "Slope(J, 1)", w, e, 0)
	w, e = chart.Back(joukowski(1), 2.5, false)
	exactly(t, "Back(J, 2.5, false)", w, e, 2)
	w, e = chart.Back(joukowski(1), 2.5, true)
	exactly(t, "Back(J, 2.5, true)", w, e, 0.5)
	w, e = chart.Back(joukowski(1), 2, false)
	exactly(t, "Back(J, 2, false)", w, e, 1)
}

func TestExamplesOfPowers(t *testing.T) {
	square, root := power(1, 0, 2), power(1, 0, 0.5)
	w, e := chart.At(square, 3i)
	wantExample(t, "At(z^2, 3i)", w, e, -9, api.OK)
	w, e = chart.Back(square, complex(-4, 0), false)
	wantExample(t, "Back(z^2, -4 + 0i, false)", w, e, 2i, api.OK)
	w, e = chart.Back(square, complex(-4, minusNought), false)
	wantExample(t, "Back(z^2, -4 - 0i, false)", w, e, -2i, api.OK)
	w, e = chart.Back(square, 4, true)
	wantExample(t, "Back(z^2, 4, true)", w, e, -2, api.OK)
	w, e = chart.At(root, complex(-4, 0))
	wantExample(t, "At(z^0.5, -4 + 0i)", w, e, 2i, api.OK)
	w, e = chart.Back(root, -1, false)
	wantExample(t, "Back(z^0.5, -1, false)", w, e, 0, api.ErrBranch)
	w, e = chart.Back(root, 1i, false)
	wantExample(t, "Back(z^0.5, 1i, false)", w, e, -1, api.OK)
}

func TestExamplesOfExp(t *testing.T) {
	m := exp(1, 1)
	w, e := chart.At(m, 0)
	exactly(t, "At(exp z, 0)", w, e, 1)
	w, e = chart.Back(m, 1, false)
	exactly(t, "Back(exp z, 1, false)", w, e, 0)
	w, e = chart.Back(m, 1, true)
	exactly(t, "Back(exp z, 1, true)", w, e, complex(0, 2*math.Pi))
	w, e = chart.Back(m, 0, false)
	wantExample(t, "Back(exp z, 0, false)", w, e, 0, api.ErrBranch)
}

func TestExamplesOfThen(t *testing.T) {
	over := moebius(0, 1, 1, 0)
	if m, e := chart.Then(over, over); e != api.OK || !likeMaps(m, moebius(1, 0, 0, 1)) {
		t.Errorf("Then(I, I): %v, %d", m, int(e))
	}
	if m, e := chart.Turned(over); e != api.OK || !likeMaps(m, moebius(0, -1, -1, 0)) {
		t.Errorf("Turned(I): %v, %d", m, int(e))
	}
	wantThen(t, over, joukowski(1), api.Map{}, api.ErrMap)
	m, e := chart.Three(three{0, 1, 2}, three{0, 1, 2})
	for _, z := range []complex128{0, 1, 2, 3i, -7 + 1i} {
		w, f := chart.At(m, z)
		wantExample(t, "At of Three(0, 1, 2; 0, 1, 2)", w, e+f, z, api.OK)
	}
}

func TestExamplesOfErrors(t *testing.T) {
	for _, m := range []api.Map{{}, moebius(1, 1, 1, 1), joukowski(0), power(1, 0, 5)} {
		wantCheck(t, m, api.ErrMap)
	}
	wantThree(t, three{0, 0, 1}, three{0, 1, 2}, api.Map{}, api.ErrMap)
	w, e := chart.Cross(0, 1, 2, 3)
	wantExample(t, "Cross(0, 1, 2, 3)", w, e, 4.0/3, api.OK)
	w, e = chart.Cross(0, 1, 2, 0)
	wantExample(t, "Cross(0, 1, 2, 0)", w, e, 0, api.ErrPlace)
}
