package solve_test

import (
	"math"
	"testing"

	"eddy/api"
)

// How great a complex number is, both parts' worths tell together: 3 + 4i is greater than 6, and as great as 7.
// Where the second row is the pivot's, what is taken from the first one is beyond all floats; the other way round nothing is.
func TestP14_1GreatByBothParts(t *testing.T) {
	m := complex(greatest, greatest)
	for _, c := range []complex128{3 + 4i, 4 + 3i, -3 + 4i, 3 - 4i, -4 - 3i} {
		for _, other := range []complex128{6, 6i, -6, -6i, 5 + 1i, 1 - 5i} {
			wantComplex(t, planes{{other, 0}, {c, m}}, places{0, 0}, nil, api.ErrSingular)
		}
		for _, other := range []complex128{7, 7i, -7, -7i, 5 + 2i, 4 - 3i, -3 - 4i} {
			wantLike(t, planes{{other, 0}, {c, m}}, places{0, 0}, places{0, 0})
		}
	}
}

// The first one of several, as great.
func TestP14_1TiesOfComplexNumbers(t *testing.T) {
	m := complex(greatest, greatest)
	wantComplex(t, planes{{3 + 4i, m}, {7, 0}}, places{0, 0}, nil, api.ErrSingular)
	wantComplex(t, planes{{7, 0}, {3 + 4i, m}}, places{0, 0}, places{0, 0}, api.OK)
	wantComplex(t, planes{{0, 0, 1}, {3 + 4i, m, 0}, {7i, 0, 0}}, places{0, 0, 0}, nil, api.ErrSingular)
}

// A number is finite where both its parts are, though both together are beyond all floats.
func TestP14_1GreatBeyondFloats(t *testing.T) {
	m := complex(greatest, greatest)
	wantComplex(t, planes{{m}}, places{1}, places{complex(0, minusNought)}, api.OK)
	wantComplex(t, planes{{m}}, places{m}, nil, api.ErrSingular)
	wantComplex(t, planes{{1, 0}, {m, 1}}, places{1, 0}, nil, api.ErrSingular)
	wantComplex(t, planes{{complex(greatest, 0)}}, places{complex(0, greatest)}, places{1i}, api.OK)
}

// Both parts must be nought to end it; one that is not finite is enough.
func TestP14_1ComplexPivots(t *testing.T) {
	for _, c := range []complex128{0, complex(minusNought, 0), complex(0, minusNought), complex(minusNought, minusNought)} {
		wantComplex(t, planes{{c}}, places{1}, nil, api.ErrSingular)
		wantComplex(t, planes{{1, 1i}, {1, 1i + c}}, places{1, 1}, nil, api.ErrSingular)
	}
	wantComplex(t, planes{{2i}}, places{1}, places{-0.5i}, api.OK)
	wantComplex(t, planes{{2}}, places{1}, places{0.5}, api.OK)
	wantLike(t, planes{{complex(0, least)}}, places{complex(0, -least)}, places{-1})
	high := complex(greatest, 0)
	wantComplex(t, planes{{1, -high}, {1, high}}, places{0, 0}, nil, api.ErrSingular)
	high = complex(0, greatest)
	wantComplex(t, planes{{1, -high}, {1, high}}, places{0, 0}, nil, api.ErrSingular)
	high = complex(greatest, 1)
	wantComplex(t, planes{{1, -high}, {1, high}}, places{0, 0}, nil, api.ErrSingular)
}

// Whole numbers all the way: (1, i; i, 1) and more of that kind.
func TestP14_1ComplexOfWholes(t *testing.T) {
	wantComplex(t, planes{{1 + 1i, 2}, {0, 1 - 1i}}, places{4 + 2i, 2}, places{1 - 1i, 1 + 1i}, api.OK)
	wantComplex(t, planes{{0, 4i}, {2 - 2i, 0}}, places{8, 8}, places{2 + 2i, -2i}, api.OK)
}

// Products and quotients are those of parts: an unknown beyond all floats is no number aside, not twice infinite, and both are refused.
func TestP14_1ComplexUnknowns(t *testing.T) {
	wantComplex(t, planes{{complex(0, least)}}, places{1}, nil, api.ErrSingular)
	wantComplex(t, planes{{1, 0}, {0, complex(least, 0)}}, places{1, 1}, nil, api.ErrSingular)
	wantComplex(t, planes{{0x1p600 + 0x1p600i}}, places{1}, places{0x1p-601 - 0x1p-601i}, api.OK)
}

func TestP14_3Det(t *testing.T) {
	for _, c := range []struct {
		a   rows
		det float64
		e   refused
	}{
		{rows{{7}}, 7, api.OK},
		{rows{{-7}}, -7, api.OK},
		{rows{{0, 1}, {1, 0}}, -1, api.OK},
		{rows{{0, 1, 0}, {0, 0, 1}, {1, 0, 0}}, 1, api.OK},
		{rows{{0, 0, 1}, {0, 1, 0}, {1, 0, 0}}, -1, api.OK},
		{rows{{2, 1}, {-4, 8}}, 20, api.OK},
		{diagonal(0x1p600, 0x1p-600, 0x1p600), 0x1p600, api.OK},
		{diagonal(0x1p600, 0x1p600, 0x1p-600), 0, api.ErrPlace}, // truly 2^600
		{diagonal(0x1p600, -0x1p600), 0, api.ErrPlace},
		{diagonal(0x1p600, 0x1p600, 0), 0, api.OK},
		{diagonal(0x1p600, -0x1p600, minusNought), 0, api.OK},
		{diagonal(0x1p-600, 0x1p-600), 0, api.OK},
		{diagonal(0x1p-600, -0x1p-600), minusNought, api.OK},
		{diagonal(0x1p-600, 0x1p-600, -0x1p1000), minusNought, api.OK},
		{rows{{0, 0x1p-600}, {0x1p-600, 0}}, minusNought, api.OK},
		{diagonal(greatest, 1), greatest, api.OK},
		{diagonal(greatest, math.Nextafter(1, 2)), 0, api.ErrPlace},
		{diagonal(-greatest, 1, -1), greatest, api.OK},
		{diagonal(least, 0.5), 0, api.OK},
		{diagonal(3*least, 0.5), 2 * least, api.OK},
		{diagonal(0.1, 0.2, 0.3), float64(float64(tenth*0.2) * 0.3), api.OK},
	} {
		wantDet(t, c.a, c.det, c.e)
	}
}

// tenth is no constant, as products of constants are not rounded.
var tenth = 0.1

// The sums go from the left, beginning with nought, and b's element is taken from them last.
func TestP14_4Off(t *testing.T) {
	third := func(l ...float64) rows { return rows{l, {0, 0, 0}, {0, 0, 0}} }
	b := func(c float64) list { return list{c, 0, 0} }
	for _, c := range []struct {
		a    rows
		x, b list
		off  float64
		e    refused
	}{
		{third(0x1p53, 1, -0x1p53), ones(3), b(0), 0, api.OK},
		{third(0x1p53, -0x1p53, 1), ones(3), b(0), 1, api.OK},
		{third(1, 0x1p53, -0x1p53), ones(3), b(0), 0, api.OK},
		{third(1, 1, 1), list{1, 0x1p54, 0}, b(0x1p54), 0, api.OK},
		{third(0x1p53, 1, 1), ones(3), b(0x1p53), 0, api.OK},
		{third(1, 1, 0x1p53), ones(3), b(0x1p53), 2, api.OK},
		{third(-3, 0, 0), ones(3), b(4), 7, api.OK},
		{third(0, 0, 0), ones(3), b(minusNought), 0, api.OK},
		{third(minusNought, 0, 0), ones(3), list{0, 0, 0}, 0, api.OK},
		{rows{{1, 0, 0}, {0, 1, 0}, {0, 0, 1}}, list{1, 2, 3}, list{0, 5, 1}, 3, api.OK},
		{rows{{1, 0, 0}, {0, 1, 0}, {0, 0, 1}}, list{1, 2, 3}, list{-3, 5, 1}, 4, api.OK},
		{rows{{1, 0, 0}, {0, 1, 0}, {0, 0, 1}}, list{1, 2, 3}, list{1, 2, 9}, 6, api.OK},
		{third(greatest, 0, 0), ones(3), b(0), greatest, api.OK},
		{third(greatest, 0, 0), ones(3), b(-greatest), 0, api.ErrPlace},
		{third(greatest, greatest, -greatest), ones(3), b(0), 0, api.ErrPlace},
		{third(greatest, 0, 0), list{2, 0, 0}, b(0), 0, api.ErrPlace},
		{third(greatest, -greatest, 0), list{2, 2, 0}, b(0), 0, api.ErrPlace},
		{rows{{greatest, -greatest, 0}, {0, 0, 0}, {greatest, 0, 0}}, list{2, 2, 0}, b(0), 0, api.ErrPlace},
		{rows{{greatest, 0, 0}, {0, 0, 0}, {greatest, -greatest, 0}}, list{2, 2, 0}, b(0), 0, api.ErrPlace},
		{rows{{0, 0, 0}, {0, 0, 0}, {greatest, -greatest, 0}}, list{2, 2, 0}, b(5), 0, api.ErrPlace},
		{third(least, 0, 0), list{0.5, 0, 0}, b(0), 0, api.OK},
		{third(3*least, 0, 0), list{0.5, 0, 0}, b(0), 2 * least, api.OK},
	} {
		wantOff(t, c.a, c.x, c.b, c.off, c.e)
	}
}
