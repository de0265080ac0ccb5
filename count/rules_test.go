package count_test

import (
	"math"
	"testing"

	"eddy/api"
	"eddy/box"
	"eddy/count"
	"eddy/gauss"
	"eddy/path"
)

func isInside(z complex128, b api.Box) bool {
	return real(b.Low) < real(z) && real(z) < real(b.High) && imag(b.Low) < imag(z) && imag(z) < imag(b.High)
}

// dyadic is a place of halves or quarters: products of a few of them are exact.
func (d *dice) dyadic(parts int) complex128 { return d.whole(2*parts) / complex(float64(parts), 0) }

func (d *dice) zeros(n, parts int) list {
	zeros := make(list, n)
	for i := range zeros {
		zeros[i] = d.dyadic(parts)
		if i > 0 && d.below(4) == 0 {
			zeros[i] = zeros[i-1]
		}
	}
	return zeros
}

// told is how many zeros lie inside of a box, and whether one lies on its border.
func told(zeros list, b api.Box) (n int, border bool) {
	for _, z := range zeros {
		switch {
		case isInside(z, b):
			n++
		case box.Has(b, z):
			border = true
		}
	}
	return n, border
}

// Zeros that are known: just so many where they are told, and never where one is on the border.
func TestP13_6Known(t *testing.T) {
	d := newDice()
	sure, borders := 0, 0
	for range 3000 {
		zeros := d.zeros(1+d.below(5), 2)
		l := with([]complex128{1, 1i, -2, 1 - 1i}[d.below(4)], zeros...)
		b, _ := box.Make(d.dyadic(2), d.dyadic(2))
		if refusalOfBox(b) != api.OK {
			continue
		}
		inside, border := told(zeros, b)
		depth := d.below(deepest + 1)
		n, e := count.Zeros(l, b, depth)
		if border {
			borders++
			if e != api.ErrUnsure {
				t.Errorf("Zeros(%v; %v, %d): %d, %d, with one of %v on the border", l, b, depth, n, int(e), zeros)
			}
			continue
		}
		if e == api.OK {
			sure++
			if n != inside {
				t.Errorf("Zeros(%v; %v, %d): %d, not %d of %v", l, b, depth, n, inside, zeros)
			}
		}
		if e != api.OK && depth > 12 {
			t.Errorf("Zeros(%v; %v, %d): %d, with none of %v on the border", l, b, depth, int(e), zeros)
		}
	}
	if sure < 200 || borders < 200 {
		t.Errorf("only %d, %d on borders", sure, borders)
	}
}

// Against exact numbers: coefficients of all bits, boxes of all bits.
func TestP13_6Exact(t *testing.T) {
	d := newDice()
	sure := 0
	for range 600 {
		l := d.polynomial(7, func() complex128 { return d.number(-3, 3) })
		b, _ := box.Make(d.number(-3, 2), d.number(-3, 2))
		ought, oughtE := gauss.Zeros(l, b)
		n, e := count.Zeros(l, b, deepest)
		if e == api.OK {
			sure++
		}
		if e == api.OK && (n != ought || oughtE != api.OK) || e != api.OK && e != api.ErrUnsure {
			t.Errorf("Zeros(%x; %x): %d, %d, exactly %d, %d", l, b, n, int(e), ought, int(oughtE))
		}
	}
	if sure < 500 {
		t.Errorf("only %d", sure)
	}
}

// Exactly on the border, or the next float beside it.
func TestP13_6ExactBorder(t *testing.T) {
	d := newDice()
	for range 300 {
		b := d.box(2)
		z := complex(real(b.Low), imag(b.Low)/4+imag(b.High)*3/4)
		switch d.below(4) {
		case 0:
			z = complex(real(b.High), imag(z))
		case 1:
			z = complex(real(b.Low)/2+real(b.High)/2, imag(b.Low))
		case 2:
			z = b.High
		}
		l := with(1, z, d.dyadic(2))
		if _, e := gauss.Zeros(l, b); e != api.ErrBorder {
			t.Fatalf("%x, %x: %d", l, b, int(e))
		}
		for depth := 0; depth <= deepest; depth += 6 {
			wantZeros(t, l, b, depth, 0, api.ErrUnsure)
		}
		near := complex(math.Nextafter(real(z), 9), math.Nextafter(imag(z), -9))
		ought, oughtE := gauss.Zeros(list{-near, 1}, b)
		if n, e := count.Zeros(list{-near, 1}, b, deepest); e == api.OK && (n != ought || oughtE != api.OK) {
			t.Errorf("%x, %x: %d, not %d", near, b, n, ought)
		}
	}
}

func TestP13_6Folds(t *testing.T) {
	for n := 1; n <= 14; n++ {
		for _, c := range []complex128{1, -1, 1i, -3 + 4i} {
			l := power(1, n)
			wantZeros(t, l, square(2), deepest, n, api.OK)
			l[0] -= c
			wantZeros(t, l, square(6), deepest, n, api.OK)
			wantZeros(t, l, square(0.5), deepest, 0, api.OK)
		}
	}
	wantZeros(t, with(1, 1i, 1i, 1i, 0.5, 0.5), square(2), deepest, 5, api.OK)
	wantZeros(t, with(1, 1i, 1i, 1i, 0.5, 0.5), of(-1, 1, -0.5, 0.5), deepest, 2, api.OK)
	wantZeros(t, with(1, 1i, 1i, 1i, 0.5, 0.5), of(-1, 1, 0.5, 2), deepest, 3, api.OK)
}

func TestP13_6Both(t *testing.T) {
	d := newDice()
	sure := 0
	for range 1500 {
		zeros, poles := d.zeros(d.below(4), 2), d.zeros(d.below(4), 2)
		b, _ := box.Make(d.dyadic(4), d.dyadic(4))
		if refusalOfBox(b) != api.OK {
			continue
		}
		n, border := told(zeros, b)
		m, other := told(poles, b)
		got, e := count.Both(api.Fraction{Top: with(2, zeros...), Bottom: with(1i, poles...)}, b, deepest)
		if (border || other) != (e == api.ErrUnsure) || e == api.OK && got != n-m {
			t.Errorf("Both of %v over %v; %v: %d, %d", zeros, poles, b, got, int(e))
		}
		if e == api.OK {
			sure++
		}
	}
	if sure < 150 {
		t.Errorf("only %d", sure)
	}
	// What Top and Bottom have together counts in each.
	wantBoth(t, with(1, 1, 1, 0), with(1, 1), square(2), 16, 2, api.OK)
	wantBoth(t, with(1, 1), with(1, 1, 1, 0), square(2), 16, -2, api.OK)
}

// checkFound holds an answer of Find against the rules.
func checkFound(t *testing.T, l list, b api.Box, wide float64, found []api.Box, zeros []int) {
	t.Helper()
	ought, e := gauss.Zeros(l, b)
	if e != api.OK {
		t.Errorf("%x, %x: %d", l, b, int(e))
	}
	sum := 0
	for i, c := range found {
		w, e := box.Wide(c)
		if e != api.OK || w > wide || !box.In(c, b) {
			t.Errorf("%x: %x, wider than %x or outside", b, c, wide)
		}
		n, e := gauss.Zeros(l, c)
		if e != api.OK || n != zeros[i] || n < 1 {
			t.Errorf("%x has %d zeros, %d, not %d", c, n, int(e), zeros[i])
		}
		sum += zeros[i]
		for _, other := range found[:i] {
			if real(other.Low) < real(c.High) && real(c.Low) < real(other.High) && imag(other.Low) < imag(c.High) && imag(c.Low) < imag(other.High) {
				t.Errorf("%x and %x have an inside together", other, c)
			}
		}
		if i > 0 && !isAhead(found[i-1].Low, c.Low) {
			t.Errorf("%x stands ahead of %x", found[i-1], c)
		}
	}
	if sum != ought {
		t.Errorf("%x has %d zeros, %x have %d", b, ought, found, sum)
	}
}

func isAhead(a, b complex128) bool {
	return real(a) < real(b) || real(a) == real(b) && imag(a) < imag(b)
}

func TestP13_6Find(t *testing.T) {
	d := newDice()
	sure, boxes := 0, 0
	for i := range 500 {
		l := d.polynomial(7, func() complex128 { return d.number(-3, 3) })
		if i%2 == 0 {
			l = with(1, d.zeros(1+d.below(4), 2)...)
		}
		low, high := d.number(-1, 2), d.number(-1, 2)
		b := of(-math.Abs(real(low)), math.Abs(real(high)), -math.Abs(imag(low)), math.Abs(imag(high)))
		wide := math.Ldexp(1, -d.below(12))
		found, zeros, e := count.Find(l, b, wide, deepest)
		if e != api.OK {
			continue
		}
		sure++
		boxes += len(found)
		checkFound(t, l, b, wide, found, zeros)
	}
	if sure < 300 || boxes < 300 {
		t.Errorf("only %d with %d boxes", sure, boxes)
	}
}

// Once a depth is enough, all greater ones answer the same.
func TestP13_6Deeper(t *testing.T) {
	d := newDice()
	for range 300 {
		l := d.polynomial(7, func() complex128 { return d.number(-3, 3) })
		b := d.box(2)
		ought, oughtE := 0, api.ErrUnsure
		for depth := range deepest + 1 {
			n, e := count.Zeros(l, b, depth)
			if oughtE == api.OK && (n != ought || e != api.OK) {
				t.Errorf("Zeros(%x; %x, %d): %d, %d, not %d", l, b, depth, n, int(e), ought)
			}
			ought, oughtE = n, e
		}
	}
	for _, r := range fullWalks() {
		for depth := 0; depth <= deepest; depth += 4 {
			checkZeros(t, r.l, r.b, depth)
		}
	}
}

// steep is a path whose pieces go along one part alone.
func (d *dice) steep(n, parts int) list {
	var l list
	z := d.dyadic(parts)
	for range n {
		next := d.dyadic(parts)
		l = append(l, z, complex(real(next), imag(z)))
		z = next
	}
	return append(l, z, complex(real(l[0]), imag(z)))
}

// Round the zeros the path goes exactly so often, in all, as the values go round nought.
func TestP13_6Round(t *testing.T) {
	d := newDice()
	sure, ons := 0, 0
	told := map[int]int{}
	for range 4000 {
		zeros := d.zeros(1+d.below(3), 4)
		way := d.steep(1+d.below(4), 2)
		ought, on := 0, false
		if path.Check(way) != api.OK {
			continue
		}
		for _, z := range zeros {
			n, e := path.Round(way, z)
			on = on || e == api.ErrOn
			ought += n
		}
		n, _, e := count.Round(with(1, zeros...), way, deepest)
		if on != (e == api.ErrUnsure) || e == api.OK && n != ought {
			t.Errorf("Round of %v, %v: %d, %d, not %d", zeros, way, n, int(e), ought)
		}
		if on {
			ons++
			continue
		}
		told[ought]++
		sure++
	}
	if sure < 300 || ons < 300 || len(told) < 7 {
		t.Errorf("only %d, %d on the way, %v", sure, ons, told)
	}
}

// Begun at another place, a path goes round as often, by as many pieces.
func TestP13_3Begun(t *testing.T) {
	d := newDice()
	for range 500 {
		l := d.polynomial(6, func() complex128 { return d.number(-3, 3) })
		way := d.steep(1+d.below(4), 4)
		n, pieces, e := count.Round(l, way, 16)
		for i := range way {
			wantRound(t, l, append(append(list{}, way[i:]...), way[:i]...), 16, n, pieces, e)
		}
	}
}
