package gauss_test

import (
	"math"
	"testing"

	"eddy/api"
	"eddy/gauss"
)

func box(lowRe, lowIm, highRe, highIm float64) api.Box {
	return api.Box{Low: complex(lowRe, lowIm), High: complex(highRe, highIm)}
}

var square = box(-2, -2, 2, 2)

// times is the product of two polynomials, where nothing is rounded.
func times(a, b []complex128) []complex128 {
	out := make([]complex128, len(a)+len(b)-1)
	for i, x := range a {
		for j, y := range b {
			out[i+j] += x * y
		}
	}
	return out
}

// of is the polynomial with these zeros and that last coefficient, where nothing is rounded.
func of(last complex128, zeros ...complex128) []complex128 {
	l := []complex128{last}
	for _, z := range zeros {
		l = times(l, []complex128{-z, 1})
	}
	return l
}

func isInside(z complex128, b api.Box) bool {
	return real(z) > real(b.Low) && real(z) < real(b.High) && imag(z) > imag(b.Low) && imag(z) < imag(b.High)
}

func isOnBorder(z complex128, b api.Box) bool {
	return !isInside(z, b) && real(z) >= real(b.Low) && real(z) <= real(b.High) && imag(z) >= imag(b.Low) && imag(z) <= imag(b.High)
}

// told is what Zeros should tell of a polynomial with these zeros.
func told(zeros []complex128, b api.Box) (n int, e api.Errno) {
	for _, z := range zeros {
		if isOnBorder(z, b) {
			return 0, api.ErrBorder
		}
		if isInside(z, b) {
			n++
		}
	}
	return n, api.OK
}

func wantZeros(t *testing.T, l []complex128, b api.Box, n int, e api.Errno) {
	t.Helper()
	if m, f := gauss.Zeros(l, b); m != n || f != e {
		t.Errorf("Zeros(%v, %v): %d, %d, want %d, %d", l, b, m, f, n, e)
	}
}

func wantKnown(t *testing.T, last complex128, zeros []complex128, b api.Box) {
	t.Helper()
	n, e := told(zeros, b)
	wantZeros(t, of(last, zeros...), b, n, e)
}

// TestP3_6Known has zeros on a lattice on which the boxes' corners and sides lie as well; zeros come up several times.
func TestP3_6Known(t *testing.T) {
	d := newDice()
	counts := map[api.Errno]int{}
	for i := range 3000 {
		var zeros []complex128
		for range d.below(8) {
			zeros = append(zeros, complex(float64(d.below(7)-3), float64(d.below(7)-3)))
		}
		if i%50 == 0 {
			for len(zeros) < 16 {
				zeros = append(zeros, complex(float64(d.below(5)-2), float64(d.below(5)-2)))
			}
		}
		lowRe, lowIm := float64(d.below(6)-3), float64(d.below(6)-3)
		b := box(lowRe, lowIm, lowRe+float64(1+d.below(5)), lowIm+float64(1+d.below(5)))
		if d.below(2) == 0 {
			b.Low -= complex(0.5, 0.25)
			b.High += complex(0.25, 0.5)
		}
		last := []complex128{1, -1, 1i, complex(1, 2), complex(-0.5, 0.25)}[d.below(5)]
		wantKnown(t, last, zeros, b)
		_, e := told(zeros, b)
		counts[e]++
	}
	if counts[api.OK] < 500 || counts[api.ErrBorder] < 500 {
		t.Errorf("too few of one kind: %v", counts)
	}
}

// TestP3_6Border has zeros in the corners, on the sides and a float beside them.
func TestP3_6Border(t *testing.T) {
	b := box(-0.75, 0.375, 1.5, 3)
	steps := func(a float64) []float64 {
		return []float64{math.Nextafter(a, -infinite), a, math.Nextafter(a, infinite)}
	}
	for _, re := range append(steps(-0.75), append(steps(1.5), 0.1, 5, -5)...) {
		for _, im := range append(steps(0.375), append(steps(3), 0.7, 7, -7)...) {
			z := complex(re, im)
			wantKnown(t, 1, []complex128{z}, b)
			n, e := told([]complex128{z}, b)
			wantZeros(t, []complex128{0, -z, 1}, b, n, e) // nought is outside
		}
	}
}

// TestP3_6Edge has a box along the axes, where a part of the values is nought all along a side.
func TestP3_6Edge(t *testing.T) {
	for _, b := range []api.Box{box(0, 0, 3, 3), box(-3, 0, 3, 3), box(0, -3, 3, 3), box(minusNought, minusNought, 3, 3), box(-3, -3, 0, minusNought)} {
		for _, zeros := range [][]complex128{
			{1i, -1i}, {1, 2}, {4, -4}, {complex(1, 1), complex(1, -1)}, {complex(1, 1), complex(-1, 1)},
			{-4, complex(2, 1)}, {4i, -4i, complex(1, 1)}, {4, 4}, {-5, -5, complex(-1, 2)}, {0}, {0, 1i}, {3}, {3i}, {4i, 4i},
		} {
			wantKnown(t, 1, zeros, b)
			wantKnown(t, 1i, zeros, b)
			wantKnown(t, complex(3, -2), zeros, b)
		}
	}
}

// TestP3_6Folds has zeros that are several at one place: inside, on the border, on a side's line beyond its end.
func TestP3_6Folds(t *testing.T) {
	for n := 1; n <= 7; n++ {
		for _, z := range []complex128{complex(1, 1), 2, complex(2, 2), complex(2, 3), complex(-3, 2), 3} {
			var zeros []complex128
			for range n {
				zeros = append(zeros, z)
			}
			wantKnown(t, complex(1, 1), zeros, square)
			wantKnown(t, 1, append(zeros, -1, complex(-3, 2), complex(5, 2)), square)
		}
	}
	wantZeros(t, power(complex(-3, 4), 16), square, 16, api.OK)
	wantZeros(t, power(1, 16), box(0x1p-40, -1, 1, 1), 0, api.OK)
}

// TestP3_6Numeric has polynomials whose zeros are near those that rounds of floats tell, none of them near the border.
func TestP3_6Numeric(t *testing.T) {
	d := newDice()
	part := func() float64 {
		return math.Copysign(1+float64(d.word()>>12)*0x1p-52, float64(d.below(2))-0.5) * math.Ldexp(1, d.below(3)-1)
	}
	tried := 0
	for i := range 150 {
		l := make([]complex128, 2+i%16)
		for j := range l {
			l[j] = complex(part(), part())
		}
		b := api.Box{Low: complex(-math.Abs(part()), -math.Abs(part())), High: complex(math.Abs(part()), math.Abs(part()))}
		zeros, ok := rounds(l)
		n, sure := countNear(zeros, b)
		if ok && sure {
			tried++
			wantZeros(t, l, b, n, api.OK)
		}
	}
	if tried < 100 {
		t.Errorf("only %d tried", tried)
	}
}

// TestP3_6Sparse has few coefficients that are not nought, and sides on the axes: the degrees along the chain fall by more than one.
func TestP3_6Sparse(t *testing.T) {
	d := newDice()
	tried := 0
	for range 400 {
		l := make([]complex128, 17)
		for range 2 + d.below(3) {
			l[d.below(17)] = complex(float64(d.below(9)-4), float64(d.below(3)-1))
		}
		l[0] += complex(1, 5)
		l[16-d.below(3)] += complex(0, 9)
		b := []api.Box{box(0, 0, 3, 3), box(-3, 0, 0, 3), box(-3, 0, 3, 3), box(0, -3, 3, 0), box(-1, -1, 0, 0)}[d.below(5)]
		m := len(l)
		for l[m-1] == 0 {
			m--
		}
		zeros, ok := rounds(l[:m])
		n, sure := countNear(zeros, b)
		if ok && sure {
			tried++
			wantZeros(t, l, b, n, api.OK)
		}
	}
	if tried < 200 {
		t.Errorf("only %d tried", tried)
	}
}

// countNear counts the zeros in a box, and tells whether none is near its border.
func countNear(zeros []complex128, b api.Box) (n int, sure bool) {
	edge := complex(1e-6, 1e-6)
	wide := api.Box{Low: b.Low - edge, High: b.High + edge}
	slim := api.Box{Low: b.Low + edge, High: b.High - edge}
	for _, z := range zeros {
		if isInside(z, slim) {
			n++
		} else if isInside(z, wide) {
			return 0, false
		}
	}
	return n, true
}

// rounds are the zeros, nearly, all at once; ok, if they came to rest.
func rounds(l []complex128) (zeros []complex128, ok bool) {
	n := len(l) - 1
	zeros = of(1)[:0]
	for i := range n {
		angle := 2*math.Pi*float64(i)/float64(n) + 0.4
		zeros = append(zeros, complex(math.Cos(angle), math.Sin(angle)))
	}
	for range 500 {
		moved := 0.0
		for i, z := range zeros {
			var top complex128
			for j := range l {
				top = top*z + l[n-j]
			}
			bottom := l[n]
			for j, w := range zeros {
				if j != i {
					bottom *= z - w
				}
			}
			step := top / bottom
			zeros[i] -= step
			moved = max(moved, math.Abs(real(step)), math.Abs(imag(step)))
		}
		if moved < 1e-12 {
			return zeros, true
		}
	}
	return zeros, false
}

// TestP3_6Wide has the greatest and the least middling floats beside each other.
func TestP3_6Wide(t *testing.T) {
	small, great := 0x1p-40, 0x1p40
	wantZeros(t, []complex128{complex(-great, great), complex(small, -small)}, box(-great, -great, great, great), 0, api.OK)
	wantZeros(t, []complex128{complex(-small, 0), 1}, box(0, -small, 1, small), 1, api.OK)
	wantZeros(t, []complex128{complex(-small, 0), 1}, box(small, -small, 1, small), 0, api.ErrBorder)
	wantZeros(t, []complex128{complex(-small, 0), 1}, box(math.Nextafter(small, 1), -small, 1, small), 0, api.OK)
	wantZeros(t, []complex128{complex(-small, -small), complex(great, 0)}, box(-great, -great, small, small), 1, api.OK)
	wantZeros(t, []complex128{complex(-great, 0), 1}, box(0, -great, great, great), 0, api.ErrBorder)
	wantZeros(t, []complex128{complex(-math.Nextafter(great, 0), 0), 1}, box(0, -great, great, great), 1, api.OK)
	d := newDice()
	l := make([]complex128, 17)
	for i := range l {
		l[i] = complex(math.Ldexp(1+float64(d.word()>>12)*0x1p-52, 39), -math.Ldexp(1+float64(d.word()>>12)*0x1p-52, -40))
	}
	wantZeros(t, l, box(-great, -great, great, great), 16, api.OK)
	zeros, ok := rounds(l)
	for _, b := range []api.Box{box(small, small, great, great), box(-great, -great, small, small), box(-great, small, great, great), box(-great, -great, great, small)} {
		n, e := told(zeros, b)
		if n == 0 || e != api.OK || !ok {
			t.Fatalf("no test: %d, %d, %v", n, e, ok)
		}
		wantZeros(t, l, b, n, api.OK)
	}
}

func TestP3_6Degrees(t *testing.T) {
	wantZeros(t, []complex128{5}, square, 0, api.OK)
	wantZeros(t, []complex128{0x1p-40i}, square, 0, api.OK)
	wantZeros(t, []complex128{5, 0, complex(minusNought, minusNought)}, square, 0, api.OK)
	wantZeros(t, append([]complex128{-1, 1}, make([]complex128, 15)...), square, 1, api.OK)
	wantZeros(t, append([]complex128{-2, 1}, make([]complex128, 15)...), square, 0, api.ErrBorder)
	wantZeros(t, append([]complex128{-1, 1}, make([]complex128, 16)...), square, 0, api.ErrMany)
	wantZeros(t, power(1, 16), square, 16, api.OK)
	wantZeros(t, power(1, 17), square, 0, api.ErrMany)
	wantZeros(t, make([]complex128, 17), square, 0, api.ErrPoly)
	wantZeros(t, make([]complex128, 18), square, 0, api.ErrMany)
	wantZeros(t, nil, square, 0, api.ErrMany)
	wantZeros(t, []complex128{}, square, 0, api.ErrMany)
	wantZeros(t, []complex128{0}, square, 0, api.ErrPoly)
	wantZeros(t, []complex128{0, complex(minusNought, 0)}, square, 0, api.ErrPoly)
}

// TestP3_6Middling has each part of a coefficient and of a corner just middling, and just not.
func TestP3_6Middling(t *testing.T) {
	fair := []float64{0, minusNought, 0x1p-40, -0x1p-40, 0x1p40, -0x1p40, math.Nextafter(0x1p-40, 1), math.Nextafter(0x1p40, 0)}
	foul := []float64{math.Nextafter(0x1p-40, 0), -math.Nextafter(0x1p-40, 0), least, -least, math.Nextafter(0x1p40, infinite), -math.Nextafter(0x1p40, infinite), greatest, infinite, -infinite, none}
	for _, a := range fair {
		for _, l := range [][]complex128{{complex(a, 1), 0}, {complex(1, a)}} {
			wantZeros(t, l, square, 0, api.OK)
		}
		for _, l := range [][]complex128{{0, 1, complex(a, 0)}, {0, 1, complex(0, a)}} {
			if _, e := gauss.Zeros(l, square); e != api.OK {
				t.Errorf("Zeros(%v): %d", l, e)
			}
		}
		one := []complex128{1}
		if a < 1 {
			wantZeros(t, one, box(a, -1, 1, 1), 0, api.OK)
			wantZeros(t, one, box(-1, a, 1, 1), 0, api.OK)
		}
		if a > -1 {
			wantZeros(t, one, box(-1, -1, a, 1), 0, api.OK)
			wantZeros(t, one, box(-1, -1, 1, a), 0, api.OK)
		}
	}
	for _, a := range foul {
		for _, l := range [][]complex128{{complex(a, 1)}, {complex(1, a)}, {0, 0, complex(a, 0)}, {0, complex(0, a), 0}, {complex(a, 0), 1}} {
			wantZeros(t, l, square, 0, api.ErrReal)
		}
		for _, b := range []api.Box{box(a, -1, 1, 1), box(-1, a, 1, 1), box(-1, -1, a, 1), box(-1, -1, 1, a), box(a, a, a, a)} {
			wantZeros(t, []complex128{0, 1}, b, 0, api.ErrReal)
		}
	}
}

func TestP3_6Box(t *testing.T) {
	for _, b := range []api.Box{{}, {High: 1}, {High: 1i}, box(1, 1, 1, 1), box(1, 0, 1, 2), box(0, 1, 2, 1), box(2, 0, 1, 3), box(0, 3, 3, 2), box(0, 0, minusNought, 1), box(minusNought, -1, 0, 1), box(2, 2, 1, 1)} {
		for _, l := range [][]complex128{{1}, {0, 1}, {-1, 1}} {
			wantZeros(t, l, b, 0, api.ErrBox)
		}
	}
}

// TestP3_6Order has several things wrong at a time.
func TestP3_6Order(t *testing.T) {
	foulBox := box(none, 0, 1, 1)
	foul := complex(none, 0)
	wantZeros(t, make([]complex128, 18), foulBox, 0, api.ErrMany)
	wantZeros(t, append(make([]complex128, 17), foul), square, 0, api.ErrMany)
	wantZeros(t, []complex128{0, foul}, box(1, 1, 0, 0), 0, api.ErrReal)
	wantZeros(t, []complex128{0, 0, 0x1p-41}, square, 0, api.ErrReal)
	wantZeros(t, []complex128{0, 0}, foulBox, 0, api.ErrPoly)
	wantZeros(t, []complex128{0, 0}, api.Box{}, 0, api.ErrPoly)
	wantZeros(t, []complex128{-1, 1}, box(1, 0, 1, none), 0, api.ErrReal)
	wantZeros(t, []complex128{-1, 1}, box(2, 2, 1, 0x1p41), 0, api.ErrReal)
	wantZeros(t, []complex128{-1, 1}, box(1, 0, 1, 1), 0, api.ErrBox)
}

func TestP3_9Product(t *testing.T) {
	d := newDice()
	some := func() []complex128 {
		l := make([]complex128, 1+d.below(5))
		for i := range l {
			l[i] = complex(float64(d.below(19)-9), float64(d.below(19)-9))
		}
		l[len(l)-1] += complex(0, 20)
		return l
	}
	counted := 0
	for range 300 {
		a, b, in := some(), some(), square
		if d.below(2) == 0 {
			in = box(-0.5, -3, 0.25, 1)
		}
		m, e := gauss.Zeros(a, in)
		n, f := gauss.Zeros(b, in)
		if e == api.OK && f == api.OK {
			wantZeros(t, times(a, b), in, m+n, api.OK)
			counted++
		} else {
			wantZeros(t, times(a, b), in, 0, api.ErrBorder)
		}
	}
	if counted < 100 {
		t.Errorf("only %d counted", counted)
	}
}

// TestP3_9Pieces cuts boxes in two, up and across, holds mirror images against each other, and asks for all zeros.
func TestP3_9Pieces(t *testing.T) {
	d := newDice()
	for range 150 {
		l := make([]complex128, 2+d.below(7))
		for i := range l {
			l[i] = complex(float64(d.below(1999)-999)/64, float64(d.below(1999)-999)/64)
		}
		last := len(l) - 1
		l[last] += 17
		all, e := gauss.Zeros(l, square)
		if e != api.OK {
			continue
		}
		at := float64(d.below(255)-127) / 64
		for _, two := range [][2]api.Box{{box(-2, -2, at, 2), box(at, -2, 2, 2)}, {box(-2, -2, 2, at), box(-2, at, 2, 2)}} {
			m, e := gauss.Zeros(l, two[0])
			n, f := gauss.Zeros(l, two[1])
			if e != f || e == api.OK && m+n != all {
				t.Errorf("Zeros(%v) cut at %v: %d, %d and %d, %d of %d", l, at, m, e, n, f, all)
			}
		}
		turned := make([]complex128, len(l))
		for i, a := range l {
			turned[i] = complex(real(a), -imag(a))
		}
		up, e := gauss.Zeros(l, box(-2, at, 2, 3))
		wantZeros(t, turned, box(-2, -3, 2, -at), up, e)
		if all > last {
			t.Errorf("Zeros(%v): %d of the degree %d", l, all, last)
		}
		reach := 0.0
		for _, a := range l {
			reach = max(reach, math.Hypot(real(a), imag(a)))
		}
		reach = 2 + math.Ceil(reach/math.Hypot(real(l[last]), imag(l[last])))
		wantZeros(t, append(l, 0), box(-reach, -reach, reach, reach), last, api.OK)
	}
}

func TestZerosExamples(t *testing.T) {
	wantZeros(t, []complex128{1, 0, 1}, square, 2, api.OK)
	wantZeros(t, []complex128{-2, 0, 0, 0, 0, 1}, square, 5, api.OK)
	wantZeros(t, []complex128{0, 0, 1}, square, 2, api.OK)
	wantZeros(t, []complex128{5}, square, 0, api.OK)
	wantZeros(t, []complex128{-2, 1}, square, 0, api.ErrBorder)
	wantZeros(t, []complex128{0, 0}, square, 0, api.ErrPoly)
	wantZeros(t, []complex128{1}, api.Box{Low: 0, High: 1}, 0, api.ErrBox)
	wantZeros(t, []complex128{complex(none, 0), 1}, square, 0, api.ErrReal)
}
