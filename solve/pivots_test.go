package solve_test

import (
	"math"
	"testing"

	"eddy/api"
)

// Of equal elements the first one is taken, whatever their signs, as the rows stand then: the row that made room stands behind.
func TestP14_2Ties(t *testing.T) {
	for _, c := range []struct {
		a    rows
		want []int
	}{
		{rows{{-2, 1}, {2, 3}}, []int{0, 1}},
		{rows{{2, 1}, {-2, 3}}, []int{0, 1}},
		{rows{{1, 1}, {-2, 3}}, []int{1, 0}},
		{rows{{-1, 1}, {math.Nextafter(1, 2), 3}}, []int{1, 0}},
		{rows{{-1, 1}, {math.Nextafter(1, 0), 3}}, []int{0, 1}},
		{rows{{minusNought, 1}, {least, 3}}, []int{1, 0}},
		{rows{{1, 0, 0}, {3, 1, 0}, {-3, 0, 1}}, []int{1, 2, 0}},
		{rows{{1, 0, 0}, {-3, 1, 0}, {3, 0, 1}}, []int{1, 2, 0}},
		{rows{{0, 1, 0}, {0, 1, 5}, {2, 0, 0}}, []int{2, 1, 0}},
		{rows{{0, -1, 0}, {0, 1, 5}, {2, 0, 0}}, []int{2, 1, 0}},
		{rows{{0, 0, 7}, {0, 4, 0}, {5, 0, 0}}, []int{2, 1, 0}},
		{rows{{0, 0, 0, 1}, {1, 0, 0, 0}, {0, 1, 0, 0}, {0, 0, 1, 0}}, []int{1, 2, 3, 0}},
		{rows{{7}}, []int{0}},
	} {
		wantPivots(t, c.a, c.want, api.OK)
	}
}

// A row's number is the one that it had at first, however often it was moved; each move turns Det's sign.
func TestP14_2RowChanges(t *testing.T) {
	var each func(order []int, sign float64)
	each = func(order []int, sign float64) {
		if len(order) == 5 {
			a := make(rows, 5)
			for k, i := range order {
				a[i] = make(list, 5)
				a[i][k] = float64(k + 2)
			}
			wantPivots(t, a, order, api.OK)
			wantDet(t, a, sign*2*3*4*5*6, api.OK)
			wantSolve(t, a, ones(5), list{1. / 2, 1. / 3, 1. / 4, 1. / 5, 1. / 6}, api.OK)
			return
		}
		for i := range 5 {
			turn, used := sign, false
			for _, k := range order {
				used = used || k == i
				if k > i {
					turn = -turn
				}
			}
			if !used {
				each(append(append([]int{}, order...), i), turn)
			}
		}
	}
	each(nil, 1)
}

// A pivot that is nought, of either sign, ends it, at first and behind a step, and Det is a nought without a minus then.
func TestP14_1PivotNought(t *testing.T) {
	for _, a := range []rows{
		{{0}}, {{minusNought}},
		{{0, 1}, {0, 1}}, {{minusNought, -1}, {minusNought, 1}},
		{{1, 2}, {2, 4}}, {{-1, 2}, {2, -4}}, {{1, 0}, {1, minusNought}}, {{-1, 0}, {1, minusNought}},
		{{3, 3}, {1, 1}}, {{1, 3}, {1. / 3, 1}},
		{{1, 0, 2}, {3, 0, 4}, {5, 0, 6}}, {{1, 0, 2}, {0, minusNought, 4}, {0, 0, 6}},
		{{1, 2, 3}, {4, 5, 6}, {4, 5, 6}}, {{0, -1, 1}, {1, 1, 0}, {0, 1, -1}},
		{{0x1p600, 0, 0}, {0, 0x1p600, 0}, {0, 0, 0}}, {{0x1p600, 0, 0}, {0, -0x1p600, 0}, {0, 0, minusNought}},
	} {
		wantSingular(t, a)
		wantDet(t, a, 0, api.OK)
	}
}

// A pivot beyond all floats, or none at all, ends it too, even where what stands behind is nought.
func TestP14_1PivotNotFinite(t *testing.T) {
	m := greatest
	for _, a := range []rows{
		{{1, -m}, {1, m}}, {{1, m}, {1, -m}}, {{-1, m}, {1, m}},
		{{1, -m, 0}, {1, m, 0}, {1, 5, 1}},
		{{1, -m, 0}, {1, m, 0}, {1, 5, 0}},
		{{1, 0, -m}, {1, 1, m}, {1, 1, m}},
		{{1, 0, -m}, {1, 1, m}, {1, 0, 1}},
	} {
		wantSingular(t, a)
		wantDet(t, a, 0, api.ErrPlace)
	}
}

// Truly these are singular. Where rounding leaves something of the pivot, it is one, and all calls answer.
func TestP14_1NoughtsThatRoundingSpoils(t *testing.T) {
	a := rows{{49, 49}, {1, 1}}
	wantPivots(t, a, []int{0, 1}, api.OK)
	wantDet(t, a, 49*0x1p-53, api.OK)
	wantSolve(t, a, list{49, 1}, list{0, 1}, api.OK)
	wantSolve(t, a, list{49, 2}, list{1 - 0x1p53, 0x1p53}, api.OK)
	wantDet(t, rows{{1, 1}, {49, 49}}, -49*0x1p-53, api.OK)
	wantComplex(t, flat(a), places{49, 1}, places{0, 1}, api.OK)
	wantSingular(t, rows{{3, 3}, {1, 1}})
	wantSingular(t, rows{{48, 48}, {1, 1}})
}

// The pivots are good, but an unknown is none: beyond all floats, or no number, as 0 times what is infinite.
func TestP14_1UnknownNotFinite(t *testing.T) {
	for _, c := range []struct {
		a rows
		b list
	}{
		{rows{{least}}, list{1}},
		{rows{{-0x1p-1000}}, list{0x1p100}},
		{rows{{1, 0}, {0, least}}, list{1, 1}},
		{rows{{1, 1}, {0, least}}, list{1, 1}},
		{rows{{least, 0}, {0, 1}}, list{1, 1}},
		{rows{{1, 1, 1}, {0, 1, 1}, {0, 0, 1}}, list{greatest, -greatest, greatest}},
		{rows{{1, 0}, {1, 1}}, list{-greatest, greatest}},
	} {
		wantSolve(t, c.a, c.b, nil, api.ErrSingular)
		wantComplex(t, flat(c.a), flatList(c.b), nil, api.ErrSingular)
		if x, e := pivotSteps(c.a); e != api.OK {
			t.Error(x, int(e))
		}
	}
	wantSolve(t, rows{{least}}, list{least}, list{1}, api.OK)
	wantSolve(t, rows{{greatest}}, list{least}, list{0}, api.OK)
	wantSolve(t, rows{{greatest}}, list{-least}, list{minusNought}, api.OK)
}

// Rounded first, (1 - 2^-27) * (1 + 2^-27) is 1; fused with a difference it would leave 2^-54.
func TestP14_1ProductsRounded(t *testing.T) {
	low, high := 1-0x1p-27, 1+0x1p-27
	if math.FMA(-low, high, 1) != 0x1p-54 {
		t.Fatal("these tell nothing")
	}
	wantSingular(t, rows{{1, high}, {low, 1}})
	wantDet(t, rows{{1, high}, {low, 1}}, 0, api.OK)
	behind, back := rows{{1, 0}, {low, 1}}, rows{{1, low}, {0, 1}}
	wantSolve(t, behind, list{high, 1}, list{high, 0}, api.OK)
	wantSolve(t, back, list{1, high}, list{0, high}, api.OK)
	wantComplex(t, flat(behind), places{complex(high, 0), 1}, places{complex(high, 0), 0}, api.OK)
	wantComplex(t, flat(back), places{1, complex(high, 0)}, places{0, complex(high, 0)}, api.OK)
	wantOff(t, rows{{1, low}, {0, 0}}, list{-1, high}, list{0, 0}, 0, api.OK)
	wantOff(t, rows{{low, 1}, {0, 0}}, list{high, -1}, list{0, 0}, 0, api.OK)
}

// The quotient comes first, and is rounded, ahead of its product with the pivot's elements: 1 over 49, times 49, is not 1.
func TestP14_1QuotientFirst(t *testing.T) {
	wantDet(t, rows{{49, 49}, {1, 1}}, 49*0x1p-53, api.OK)
	wantSolve(t, rows{{49, 0}, {1, 1}}, list{49, 1}, list{1, 0x1p-53}, api.OK)
	wantComplex(t, planes{{49i, 0}, {1i, 1}}, places{49, 1}, places{-1i, 0x1p-53}, api.OK)
}

// The way back takes the products away one by one, from the left.
func TestP14_1WayBackInOrder(t *testing.T) {
	a := rows{{1, 1, 1, 1}, {0, 1, 0, 0}, {0, 0, 1, 0}, {0, 0, 0, 1}}
	wantSolve(t, a, list{1, 0x1p53, 1, -0x1p53}, list{0, 0x1p53, 1, -0x1p53}, api.OK)
	wantSolve(t, a, list{1, 1, 0x1p53, -0x1p53}, list{0, 1, 0x1p53, -0x1p53}, api.OK)
	wantSolve(t, a, list{0, 1, 0x1p54, -0x1p54}, list{0, 1, 0x1p54, -0x1p54}, api.OK)
	wantSolve(t, a, list{0, 0x1p54, -0x1p54, 1}, list{-1, 0x1p54, -0x1p54, 1}, api.OK)
	wantComplex(t, flat(a), places{0, 0x1p54, -0x1p54, 1i}, places{-1i, 0x1p54, -0x1p54, 1i}, api.OK)
}
