package poly_test

import (
	"testing"

	"eddy/api"
)

func TestP8_3SlopeAtEdges(t *testing.T) {
	for _, a := range ends() {
		wantSlope(t, list{a}, list{0}, api.OK)
	}
	for _, r := range []struct {
		l, ought list
		e        api.Errno
	}{
		{list{1, complex(minusNought, 3)}, list{complex(minusNought, 3)}, api.OK},
		{list{1, minusBoth, complex(0, -1)}, list{minusBoth, complex(0, -2)}, api.OK},
		{list{1, 0, 0, complex(least, 0)}, list{0, 0, complex(3*least, 0)}, api.OK},
		{list{most, most}, list{most}, api.OK},
		{list{1, 1, complex(0, -most/2)}, list{1, complex(0, -most)}, api.OK},
		{list{1, 1, most}, nil, api.ErrPlace},
		{list{1, 1, complex(1, -beyond/2)}, nil, api.ErrPlace},
		{list{1, 1, most, 1}, nil, api.ErrPlace},
		{ending(degrees, most/64), ending(degrees-1, most), api.OK},
		{ending(degrees, complex(beyond/64, 0)), nil, api.ErrPlace},
	} {
		wantSlope(t, r.l, r.ought, r.e)
	}
}

func TestP8_4AddAtEdges(t *testing.T) {
	for _, r := range []struct {
		a, b, ought list
		e           api.Errno
	}{
		{list{0}, list{0}, list{0}, api.OK},
		{list{minusBoth}, list{minusBoth}, list{minusBoth}, api.OK},
		{list{minusBoth}, list{0}, list{0}, api.OK},
		{list{1}, list{5, minusBoth, complex(minusNought, 2)}, list{6, minusBoth, complex(minusNought, 2)}, api.OK}, // nothing is added to those of one alone
		{list{minusBoth, complex(1, minusNought)}, list{minusBoth}, list{minusBoth, complex(1, minusNought)}, api.OK},
		{list{1, 2, 3}, list{4, 5, -3}, list{5, 7}, api.OK},
		{list{1, 2, 3 + 1i}, list{4, -2, -3 - 1i}, list{5}, api.OK},
		{list{1, 2, 3}, list{-1, -2, -3}, list{0}, api.OK},
		{list{1, 2, 3 + 1i}, list{4, -2, -3}, list{5, 0, 1i}, api.OK},
		{filled(degrees+1, 1), filled(degrees+1, -1), list{0}, api.OK},
		{filled(degrees+1, 1), filled(degrees+1, 1), filled(degrees+1, 2), api.OK},
		{list{most}, list{0, 1}, list{most, 1}, api.OK},
		{list{complex(within, 1)}, list{complex(most-within, 1)}, list{complex(most, 2)}, api.OK},
		{list{most}, list{complex(least, 0)}, list{most}, api.OK},
		{list{most}, list{0x1p-12}, nil, api.ErrPlace},
		{list{most, 1}, list{most, -1}, nil, api.ErrPlace}, // ahead of what is left out
		{list{1, 0, complex(0, -most)}, list{1, 0, complex(0, -most)}, nil, api.ErrPlace},
		{list{1, complex(0, most), 1, 1}, list{1, 1i, 1, -1}, nil, api.ErrPlace},
	} {
		wantAdd(t, r.a, r.b, r.ought, r.e)
		wantAdd(t, r.b, r.a, r.ought, r.e)
	}
}

func TestP8_5MulAtEdges(t *testing.T) {
	for _, a := range noughts { // whatever the signs, and however high the other one's degree
		for _, l := range []list{{1}, {minusBoth}, {-1i, 2}, filled(degrees+1, -most)} {
			wantMul(t, list{a}, l, list{0}, api.OK)
			wantMul(t, l, list{a}, list{0}, api.OK)
		}
	}
	for _, r := range []struct {
		a, b, ought list
		e           api.Errno
	}{
		{list{complex(minusNought, 0), 1}, list{1}, list{complex(minusNought, 0), 1}, api.OK}, // the sum begins with the first product
		{list{0x1p30, 1, -0x1p30}, list{0x1p30, 0x1p-30, 0x1p30}, nil, api.ErrPlace},
		{ending(32, 1), ending(32, 1i), ending(64, 1i), api.OK},
		{ending(64, 1), list{2}, ending(64, 2), api.OK},
		{ending(64, 1), list{0, 2}, nil, api.ErrMany},
		{ending(33, 1), ending(32, 1), nil, api.ErrMany},
		{ending(64, most), ending(64, most), nil, api.ErrMany}, // ahead of working
		{ending(64, complex(least, 0)), ending(1, complex(least, 0)), nil, api.ErrMany},
		{ending(3, 0x1p-600), list{1, 0x1p-600}, list{0, 0, 0, 0x1p-600}, api.OK}, // the last one vanishes
		{ending(3, 0x1p-600), ending(3, 0x1p-600), list{0}, api.OK},               // all of them do
		{list{0x1p20, 0x1p-600}, list{0x1p20, 0x1p-600}, list{most, 0x1p-579}, api.OK},
		{list{0x1p21, 0x1p-600}, list{0x1p20, 0x1p-600}, nil, api.ErrPlace}, // ahead of what is left out
		{list{1, 0x1p20}, list{1, 0x1p21}, nil, api.ErrPlace},
		{list{0x1p20, 1}, list{complex(0, -0x1p20), 1}, list{complex(0, -most), complex(0x1p20, -0x1p20), 1}, api.OK},
		{list{complex(0x1p20, 0x1p20)}, list{complex(0x1p20, 0x1p20)}, nil, api.ErrPlace},
		{list{complex(0x1p20, 0x1p20)}, list{complex(0x1p20, -0x1p20)}, nil, api.ErrPlace},
	} {
		wantMul(t, r.a, r.b, r.ought, r.e)
	}
}

// The middle coefficient is 2^39 + 2^-14 + 2^-14 - 2^39: from the left both small ones are lost, from the right neither.
func TestP8_5OrderOfTheSum(t *testing.T) {
	a, b := list{0x1p19, 1, 0x1p-14, -0x1p19}, list{0x1p20, 1, 0x1p-14, 0x1p20}
	wantMul(t, a, b, list{0x1p39, 0x1p20 + 0x1p19, 97, 0, 0x1p19 + 0x1p-28, 32, -0x1p39}, api.OK)
	// turned round, the two great ones stand at the ends as before
	wantMul(t, b, a, list{0x1p39, 0x1p20 + 0x1p19, 97, 0x1p-13, 0x1p19 + 0x1p-28, 32, -0x1p39}, api.OK)
}

func TestP8_6DivAtEdges(t *testing.T) {
	for _, a := range noughts {
		wantDiv(t, list{1, 2}, list{a}, nil, nil, api.ErrPlace)
		wantDiv(t, list{a}, list{a}, nil, nil, api.ErrPlace)
		wantDiv(t, list{a}, list{1, 2}, list{0}, list{a}, api.OK)
	}
	for _, r := range []struct {
		a, b, q, r list
		e          api.Errno
	}{
		{list{minusBoth, complex(minusNought, 5)}, list{0, 0, complex(least, 0)}, list{0}, list{minusBoth, complex(minusNought, 5)}, api.OK}, // the rest is a itself
		{filled(degrees, most), ending(degrees, 1), list{0}, filled(degrees, most), api.OK},
		{list{2, 4i}, list{2}, list{1, 2i}, list{0}, api.OK},
		{list{2, 4i}, list{2i}, list{-1i, 2}, list{0}, api.OK},
		{list{3}, list{2}, list{1.5}, list{0}, api.OK},
		{list{7, 5}, list{3, 2}, list{2.5}, list{-0.5}, api.OK},
		{list{3, 2}, list{3, 2}, list{1}, list{0}, api.OK},
		{list{3, 3, 2}, list{3, 1, 2}, list{1}, list{0, 2}, api.OK},
		{list{4, 1, 2}, list{3, 1, 2}, list{1}, list{1}, api.OK}, // the rest's last one is nought, and left out
		{list{-1, 0, 0, 0, 1}, list{-1, 0, 1}, list{1, 0, 1}, list{0}, api.OK},
		{ending(degrees, 1), ending(1, 1), ending(degrees-1, 1), list{0}, api.OK},
		{ending(degrees, 1), ending(degrees, 2), list{0.5}, list{0}, api.OK},
		{list{most, complex(least, 0)}, list{most}, list{1}, list{0}, api.OK},                        // the quotient's last one vanishes
		{list{5, complex(least, 0)}, list{7, most}, list{0}, list{5}, api.OK},                        // all of it does
		{list{0, 0x1p30}, list{0x1p30, 1}, nil, nil, api.ErrPlace},                                   // the rest is beyond MaxReal
		{list{0, 1}, list{0, 0x1p-41}, nil, nil, api.ErrPlace},                                       // the quotient is
		{list{0, 1}, list{0, 0x1p-40}, list{most}, list{0}, api.OK},                                  // just not
		{list{0, 1}, list{1, 0x1p-40}, list{most}, list{-most}, api.OK},                              // neither the rest
		{list{1, most}, list{1, complex(least, 0)}, nil, nil, api.ErrPlace},                          // it is infinite
		{list{1, 0, 0, complex(least, 0), 1}, list{1, 0, complex(0, least)}, nil, nil, api.ErrPlace}, // and from there on no number
		{list{0x1p39, 0, 0x1p39}, list{-1, 1}, list{0x1p39, 0x1p39}, list{most}, api.OK},             // the rest comes just to MaxReal
		{list{0x1p39 + 1, 0, 0x1p39}, list{-1, 1}, nil, nil, api.ErrPlace},                           // and beyond it
	} {
		wantDiv(t, r.a, r.b, r.q, r.r, r.e)
	}
}

func TestP8_7OfAtEdges(t *testing.T) {
	wantOf(t, nil, list{1}, api.OK)
	wantOf(t, list{}, list{1}, api.OK)
	for _, z := range ends() {
		wantOf(t, list{z}, list{neg(mul(z, 1)), 1}, api.OK)
	}
	for _, z := range strangers() {
		wantOf(t, list{z}, nil, api.ErrReal)
		wantOf(t, list{0, 1, z}, nil, api.ErrReal)
		wantOf(t, list{z, most, most}, nil, api.ErrReal)
		wantOf(t, append(make(list, degrees-1), z), nil, api.ErrReal)
		wantOf(t, append(make(list, degrees), z), nil, api.ErrMany) // the length is looked at first
	}
	for _, r := range []struct {
		zeros, ought list
		e            api.Errno
	}{
		{list{0x1p20, -0x1p20}, list{complex(-most, minusNought), complex(0, minusNought), 1}, api.OK},
		{list{0x1p20, complex(0, 0x1p20)}, list{complex(minusNought, most), complex(-0x1p20, -0x1p20), 1}, api.OK},
		{list{0x1p20, 0x1p20 + 1}, nil, api.ErrPlace},
		{list{most, most, 0x1p-40}, nil, api.ErrPlace},
		{list{most, complex(least, 0), -most}, nil, api.ErrPlace},
		{list{most, 1}, nil, api.ErrPlace},
		{list{1, -1, 1i, -1i}, list{complex(-1, minusNought), 0, 0, 0, 1}, api.OK},
		{filled(degrees, most), nil, api.ErrPlace}, // infinite on the way
		{filled(degrees, -1), nil, api.ErrPlace},   // 64 over 32
		{filled(degrees+1, 0), nil, api.ErrMany},
		{filled(degrees+1, most), nil, api.ErrMany}, // ahead of working
		{filled(1<<16, 0), nil, api.ErrMany},
	} {
		wantOf(t, r.zeros, r.ought, r.e)
	}
}

// The polynomial of 44 zeros at -1 has coefficients beyond MaxReal; with 20 more at 1 they have come back.
func TestP8_7BackWithinReals(t *testing.T) {
	zeros := append(filled(44, -1), filled(20, 1)...)
	wantOf(t, zeros[:44], nil, api.ErrPlace)
	ought, e := ofSteps(zeros)
	if e != api.OK || len(ought) != degrees+1 {
		t.Fatal(ought, e)
	}
	wantOf(t, zeros, ought, api.OK)
}

func TestP8_8ShiftAtEdges(t *testing.T) {
	for _, by := range strangers() {
		for _, l := range []list{{0}, {1}, {1, 2}, filled(degrees+1, most)} {
			wantShift(t, l, by, nil, api.ErrReal)
		}
	}
	for _, by := range ends() { // of the degree 0 nothing is added to the coefficient
		for _, a := range ends() {
			wantShift(t, list{a}, by, list{a}, api.OK)
		}
	}
	for _, r := range []struct {
		l     list
		by    complex128
		ought list
		e     api.Errno
	}{
		{list{minusBoth, 1}, 0, list{0, 1}, api.OK}, // even by nought the sums are taken
		{list{minusBoth, 1}, complex(minusNought, 0), list{complex(minusNought, 0), 1}, api.OK},
		{list{0, 1}, most, list{most, 1}, api.OK},
		{list{1, 1}, most, nil, api.ErrPlace},
		{list{-1, 1}, most, list{most - 1, 1}, api.OK},
		{list{-1, 1}, complex(0, most), list{complex(-1, most), 1}, api.OK},
		{list{complex(0, 1), 1}, complex(0, most), nil, api.ErrPlace},
		{list{0, 0, 1}, 0x1p20, list{most, 0x1p21, 1}, api.OK},
		{list{0, 0, 1}, -0x1p20, list{most, -0x1p21, 1}, api.OK},
		{list{0, 0, 1}, 1i, list{-1, 2i, 1}, api.OK},
		{list{0, 0, 1}, 0x1p21, nil, api.ErrPlace},
		{ending(degrees, 1), most, nil, api.ErrPlace}, // infinite
		{ending(degrees, 1), complex(most, most), nil, api.ErrPlace},
		{ending(degrees, 1), 0, ending(degrees, 1), api.OK},
		{ending(degrees, complex(least, 0)), 0x1p-20, ending(degrees, complex(least, 0)), api.OK},
	} {
		wantShift(t, r.l, r.by, r.ought, r.e)
	}
}
