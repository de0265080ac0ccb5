package count_test

import (
	"math"
	"testing"

	"eddy/api"
	"eddy/box"
	"eddy/count"
)

func TestP13_4Steps(t *testing.T) {
	d := newDice()
	seen := map[api.Errno]int{}
	told := map[int]int{}
	for range 600 {
		l, depth := d.wild()
		b, wide := square(float64(1+d.below(3))), 4*math.Ldexp(1, -d.below(8))
		if d.below(2) == 0 {
			b = d.box(2)
		}
		seen[checkFind(t, l, b, wide, depth)]++
		found, _, _ := oughtFind(l, b, wide, depth)
		told[len(found)]++
	}
	if seen[api.OK] < 300 || seen[api.ErrUnsure] < 50 || len(told) < 5 {
		t.Errorf("the dice are lame: %v, %v", seen, told)
	}
}

// A box that is narrow enough at once is answered as it is, noughts' signs too.
func TestP13_4AtOnce(t *testing.T) {
	below := math.Nextafter(4, 0)
	for _, depth := range []int{2, 8, deepest} {
		for _, wide := range []float64{4, 5, most} {
			wantFind(t, list{0, 0, 1}, square(2), wide, depth, []api.Box{square(2)}, []int{2}, api.OK)
			wantFind(t, list{1, 0, 0, 1}, square(2), wide, depth, []api.Box{square(2)}, []int{3}, api.OK)
		}
	}
	wantFind(t, list{0, 1}, square(2), 4, 0, []api.Box{square(2)}, []int{1}, api.OK)
	wantFind(t, list{0, 1}, square(2), below, 0, nil, nil, api.ErrUnsure)
	signed := of(minusNought, 2, -1, minusNought)
	wantFind(t, list{-1 + 0.5i, 1}, signed, 2, 0, []api.Box{signed}, []int{1}, api.OK)
	// The wider part counts, whichever it is.
	for _, b := range []api.Box{of(-4, 4, -1, 1), of(-1, 1, -4, 4)} {
		wantFind(t, list{0, 1}, b, 8, 0, []api.Box{b}, []int{1}, api.OK)
		wantFind(t, list{0, 1}, b, math.Nextafter(8, 0), 0, nil, nil, api.ErrUnsure)
	}
	tiny := square(0x1p-41)
	wantFind(t, list{0, 1}, tiny, narrow, 0, []api.Box{tiny}, []int{1}, api.OK)
}

// Where nothing goes round there is no box, however wide, and nothing is cut.
func TestP13_4None(t *testing.T) {
	for _, wide := range []float64{narrow, 1, most} {
		wantFind(t, list{5}, square(2), wide, 0, nil, nil, api.OK)
		wantFind(t, list{-3, 1}, square(2), wide, 0, nil, nil, api.OK)
		wantFind(t, list{1, 0, 1}, square(0.5), wide, 8, nil, nil, api.OK)
		wantFind(t, list{1}, square(greatest), wide, 0, nil, nil, api.OK)
	}
}

// The polynomial z less a place: the sides need not be halved, so the depth is how often is cut.
func TestP13_4Depth(t *testing.T) {
	z := 0.3 + 0.7i
	b := square(2)
	for cuts := range deepest + 1 {
		wide := math.Ldexp(4, -cuts)
		for _, depth := range []int{cuts, deepest} {
			wantFind(t, list{-z, 1}, square(2), wide, depth, []api.Box{b}, []int{1}, api.OK)
		}
		if cuts > 0 {
			wantFind(t, list{-z, 1}, square(2), wide, cuts-1, nil, nil, api.ErrUnsure)
			wantFind(t, list{-z, 1}, square(2), math.Nextafter(2*wide, 0), cuts-1, nil, nil, api.ErrUnsure)
		}
		wantFind(t, list{-z, 1}, square(2), math.Nextafter(wide, 0), cuts, nil, nil, api.ErrUnsure)
		quarters, _ := box.Four(b)
		for _, q := range quarters {
			if real(q.Low) < real(z) && real(z) < real(q.High) && imag(q.Low) < imag(z) && imag(z) < imag(q.High) {
				b = q
			}
		}
	}
}

// Zeros on the first cuts: it is cut at the first number whose lines have none.
func TestP13_4Numbers(t *testing.T) {
	lines := []float64{0, -0.25, 0.375, -0.125} // of the square from -2 to 2, cut at 0.5, 0.4375, 0.59375, 0.46875
	for _, r := range []struct {
		lines int
		boxes []api.Box
		zeros []int
		e     api.Errno
	}{
		{0, []api.Box{of(0, 2, 0, 2)}, []int{1}, api.OK},
		{1, []api.Box{of(-0.25, 2, -0.25, 2)}, []int{2}, api.OK},
		{2, []api.Box{of(-2, 0.375, 0.375, 2), of(0.375, 2, 0.375, 2)}, []int{2, 1}, api.OK},
		{3, []api.Box{of(-2, -0.125, -0.125, 2), of(-0.125, 2, -0.125, 2)}, []int{1, 3}, api.OK},
		{4, nil, nil, api.ErrUnsure},
	} {
		zeros := list{1.25 + 1.5i}
		for _, x := range lines[:r.lines] {
			zeros = append(zeros, complex(x, 1))
		}
		for _, depth := range []int{12, deepest} {
			wantFind(t, with(1, zeros...), square(2), 2.375, depth, r.boxes, r.zeros, r.e)
		}
		wantFind(t, with(1, zeros...), square(2), 4, 12, []api.Box{square(2)}, []int{1 + r.lines}, api.OK)
		// Mirrored in the line from lower left to upper right, the boxes come in the same order here.
		for i, z := range zeros {
			zeros[i] = complex(imag(z), real(z))
		}
		var mirrored []api.Box
		for _, b := range r.boxes {
			mirrored = append(mirrored, of(imag(b.Low), imag(b.High), real(b.Low), real(b.High)))
		}
		wantFind(t, with(1, zeros...), square(2), 2.375, 12, mirrored, r.zeros, r.e)
	}
}

// One zero on a cut's line makes the first, the second, the third or all of the quarters unsure.
func TestP13_4OneQuarter(t *testing.T) {
	for _, z := range []complex128{-1i, -1, 1, 1i, 0, complex(0, -1.9), complex(1.9, 0), complex(minusNought, 0.3)} {
		x, y := -0.25, -0.25
		ought := of(x, 2, y, 2)
		if real(z) < x {
			ought = of(-2, x, y, 2)
		}
		if imag(z) < y {
			ought = of(x, 2, -2, y)
		}
		wantFind(t, list{-z, 1}, square(2), 3, 8, []api.Box{ought}, []int{1}, api.OK)
		wantFind(t, list{-z, 1}, square(2), 3, 1, []api.Box{ought}, []int{1}, api.OK)
	}
}

// Where no cut lies between the corners there is none.
func TestP13_4NotBetween(t *testing.T) {
	// In the imaginary part there is no float between these two, but a zero.
	l := list{complex(0.3*most, 0x1p-1060), most}
	for _, b := range []api.Box{of(-2, 2, -least, 0), of(-2, 2, -least, minusNought)} {
		wantZeros(t, l, b, 0, 1, api.OK)
		wantFind(t, l, b, 4, 0, []api.Box{b}, []int{1}, api.OK)
		for _, depth := range []int{0, 1, deepest} {
			wantFind(t, l, b, math.Nextafter(4, 0), depth, nil, nil, api.ErrUnsure)
			wantFind(t, list{complex(0x1p-1060, 0.3*most), most}, of(-least, 0, -2, 2), 1, depth, nil, nil, api.ErrUnsure)
		}
	}
	// So wide that the width passes all floats: it is not told, so the box is cut, and nowhere.
	for _, depth := range []int{0, 1, deepest} {
		for _, b := range []api.Box{square(0x1p1023), of(-0x1p1023, 0x1p1023, -1, 1), of(-1, 1, -0x1p1023, 0x1p1023)} {
			wantZeros(t, list{0, 1}, b, depth, 1, api.OK)
			wantFind(t, list{0, 1}, b, most, depth, nil, nil, api.ErrUnsure)
		}
	}
	wide := square(0x1p1022)
	wantFind(t, list{-1, 1}, wide, most, deepest, nil, nil, api.ErrUnsure)
}

// In a row: by Low, its real part first; each with its zeros.
func TestP13_4Row(t *testing.T) {
	wantFind(t, list{4, 0, 0, 0, 1}, square(2), 2, 8, []api.Box{of(-2, 0, -2, 0), of(-2, 0, 0, 2), of(0, 2, -2, 0), of(0, 2, 0, 2)}, []int{1, 1, 1, 1}, api.OK)
	l := with(1, 1+1i, 1+1i, 1+1i, -1+1i, 1-1i, 1-1i)
	wantFind(t, l, square(2), 2, 12, []api.Box{of(-2, 0, 0, 2), of(0, 2, -2, 0), of(0, 2, 0, 2)}, []int{1, 2, 3}, api.OK)
	// Quarters of quarters come up one quarter after the other, but stand by their corners alone.
	l = with(1, -1.5-0.5i, -0.5+1.5i, -1.5+0.5i, 0.5-0.5i, 1.5+1.5i)
	wantFind(t, l, square(2), 1, 12, []api.Box{of(-2, -1, -1, 0), of(-2, -1, 0, 1), of(-1, 0, 1, 2), of(0, 1, -1, 0), of(1, 2, 1, 2)}, []int{1, 1, 1, 1, 1}, api.OK)
}

// Boxes that differ in size stand by their lower corners, not by the upper ones.
func TestP13_4RowOfUnlike(t *testing.T) {
	l := with(1, 1i, -0.25+1i, 1.5+1.5i, 1.75-1i)
	checkFind(t, l, square(2), 2, 12)
	found, zeros, e := count.Find(l, square(2), 2, 12)
	if e != api.OK || len(found) < 3 || !sameCounts(zeros[len(zeros)-2:], []int{1, 1}) {
		t.Fatalf("%v, %d, %d", found, zeros, int(e))
	}
	ought := []api.Box{of(0.375, 2, 0.375, 2), of(1.1875, 2, -2, -0.8125)}
	if last := found[len(found)-2:]; !sameBoxes(last, ought) {
		t.Errorf("%v, not %v", last, ought)
	}
}

// In which order quarters are walked over shows where a cut is given up: what was looked at by then counts.
func TestP13_4Order(t *testing.T) {
	for _, r := range []struct {
		name   string
		a      float64
		z      complex128 // from a + a i: on the first cut's line
		pieces int
	}{
		{"the second quarter is not sure: the third one is not looked at", 43, 0.53125, 16204},
		{"but the first one is", 44, 0.53125, 16559},
		{"the third quarter is not sure: the fourth one is not looked at", 34, 0.53125i, 16155},
		{"but the second one is", 35, 0.53125i, 16658},
	} {
		at := complex(r.a, r.a)
		l := with(1, at+r.z, at+0.25+0.375i)
		b := of(r.a-1.0625, r.a+1.0625, r.a-1.0625, r.a+1.0625)
		k := looks{most: 2 * steps}
		found, zeros, e := k.findSteps(l, b, 0.9375, 16)
		if e != api.OK || k.done != r.pieces {
			t.Errorf("%s: %d, %d pieces", r.name, int(e), k.done)
		}
		if r.pieces > steps {
			found, zeros, e = nil, nil, api.ErrUnsure
		}
		wantFind(t, l, b, 0.9375, 16, found, zeros, e)
	}
}

// All walks together take just MaxSteps pieces, or one or two more.
func TestP13_4JustSoMany(t *testing.T) {
	for _, r := range []many{
		{list{-4.875 + 3051.75i, -78.0625 - 78.1875i, 1}, of(37.90625, 39.828125, 37.921875, 39.75), steps},
		{list{-3.25 + 1356.875i, -52.03125 - 52.15625i, 1}, of(24.765625, 26.9375, 25.140625, 27.203125), steps},
		{list{-4.21875 + 1462.21875i, -54 - 54.15625i, 1}, of(25.8125, 27.796875, 26.1875, 27.8125), steps + 1}, // cut at 0.4375: what was looked at by the first cut counts
		{list{4.21875 + 1465.59375i, -54.21875 - 54.0625i, 1}, of(26.09375, 28.1875, 26.234375, 28.15625), steps + 2},
	} {
		k := looks{most: 2 * steps}
		found, zeros, e := k.findSteps(r.l, r.b, 0.75, deepest)
		if e != api.OK || k.done != r.pieces || len(found) == 0 {
			t.Fatalf("%x: %x, %d, %d pieces", r.b, found, int(e), k.done)
		}
		if r.pieces > steps {
			found, zeros, e = nil, nil, api.ErrUnsure
		}
		wantFind(t, r.l, r.b, 0.75, deepest, found, zeros, e)
	}
	for _, r := range fullWalks() {
		if r.pieces > steps {
			wantFind(t, r.l, r.b, 5, deepest, nil, nil, api.ErrUnsure)
			continue
		}
		wantFind(t, r.l, r.b, 5, deepest, []api.Box{r.b}, []int{2}, api.OK)
		wantFind(t, r.l, r.b, 1, deepest, nil, nil, api.ErrUnsure)
	}
}
