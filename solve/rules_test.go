package solve_test

import (
	"math"
	"math/big"
	"testing"

	"eddy/api"
	"eddy/parts"
	"eddy/solve"
)

// trueDet is the determinant of small whole numbers, which floats hold exactly: by the first row's elements and what is left without their columns.
func trueDet(a rows) float64 {
	if len(a) == 0 {
		return 1
	}
	det, sign := 0.0, 1.0
	for k, c := range a[0] {
		left := make(rows, 0, len(a))
		for _, row := range a[1:] {
			left = append(left, append(append(list{}, row[:k]...), row[k+1:]...))
		}
		det += sign * c * trueDet(left)
		sign = -sign
	}
	return det
}

// without has b in the column k's place: its determinant over that of a is the true unknown.
func without(a rows, k int, b list) rows {
	out := apart(a)
	for i := range out {
		out[i][k] = b[i]
	}
	return out
}

// checkSmall asks P14.6 of a system of small whole numbers. FMA rounds once, and so never takes a difference across the bound, which is a float.
func checkSmall(t *testing.T, a rows, b list) {
	t.Helper()
	det := trueDet(a)
	if d, e := solve.Det(a); e != api.OK || math.Abs(d-det) >= 0x1p-28 {
		t.Errorf("Det(%v): %v, %d, truly %v", a, d, int(e), det)
	}
	if det == 0 {
		return
	}
	x, e := solve.Solve(a, b)
	if e != api.OK || len(x) != len(a) {
		t.Errorf("Solve(%v, %v): %v, %d", a, b, x, int(e))
		return
	}
	for k, c := range x {
		top := trueDet(without(a, k, b))
		if off := math.Abs(math.FMA(c, det, -top)); !(off < 0x1p-20*math.Abs(det)) {
			t.Errorf("Solve(%v, %v): %v, number %d is truly %v / %v", a, b, x, k, top, det)
		}
	}
}

func TestP14_6OneAndTwoUnknowns(t *testing.T) {
	d := newDice()
	for p := -8.; p <= 8; p++ {
		for q := -8.; q <= 8; q++ {
			checkSmall(t, rows{{p}}, list{q})
			for r := -8.; r <= 8; r++ {
				for s := -8.; s <= 8; s++ {
					checkSmall(t, rows{{p, q}, {r, s}}, list{d.whole(8), d.whole(8)})
				}
			}
		}
	}
}

func TestP14_6ThreeUnknowns(t *testing.T) {
	d := newDice()
	singular, nearly := 0, 0
	for i := range 60000 {
		a := d.system(3, func() float64 { return d.whole(8) })
		switch i % 4 {
		case 1: // the last row is made of the others: singular, or nearly so
			for j := range 3 {
				a[2][j] = math.Max(-8, math.Min(8, a[0][j]-a[1][j]))
			}
		case 2: // great ones alone, whose determinants are great or small
			for j := range 9 {
				a[j/3][j%3] = math.Copysign(float64(5+d.below(4)), a[j/3][j%3])
			}
		case 3: // small ones, whose determinants are often 1
			a = d.system(3, func() float64 { return d.whole(2) })
		}
		switch trueDet(a) {
		case 0:
			singular++
		case 1, -1:
			nearly++
		}
		checkSmall(t, a, d.list(3, func() float64 { return d.whole(8) }))
	}
	if singular < 1000 || nearly < 1000 {
		t.Errorf("only %d and %d", singular, nearly)
	}
}

// W10, of whole numbers whose answer is whole: where all steps are exact, it is just that.
func TestP14_6Wholes(t *testing.T) {
	wantSolve(t, rows{{2, 1, 0}, {1, 2, 1}, {0, 4, 8}}, list{4, 8, 32}, list{1, 2, 3}, api.OK)
	wantSolve(t, rows{{4, -2, 8}, {2, 1, -4}, {-4, 2, 0}}, list{24, -8, 0}, list{1, 2, 3}, api.OK)
	wantSolve(t, rows{{1, 1}, {1, -1}}, list{3, 1}, list{2, 1}, api.OK)
}

func exact(x float64) *big.Rat { return new(big.Rat).SetFloat64(x) }

func worth(x float64) *big.Rat { return exact(math.Abs(x)) }

// bound is what P14.7 allows of a row.
func bound(a rows, x list) *big.Rat {
	high := 0.0
	for _, row := range a {
		for _, c := range row {
			high = math.Max(high, math.Abs(c))
		}
	}
	sum := new(big.Rat)
	for _, c := range x {
		sum.Add(sum, worth(c))
	}
	sum.Mul(sum, worth(high))
	sum.Mul(sum, exact(0x1p-34))
	return sum.Add(sum, exact(0x1p-900))
}

func checkBack(t *testing.T, a rows, b, x list) {
	t.Helper()
	most := bound(a, x)
	for i, row := range a {
		off := new(big.Rat).Neg(exact(b[i]))
		for j, c := range row {
			off.Add(off, new(big.Rat).Mul(exact(c), exact(x[j])))
		}
		if off.Abs(off).Cmp(most) > 0 {
			f, _ := off.Float64()
			t.Errorf("Solve(%x, %x): %x is off by %x in the row %d", a, b, x, f, i)
		}
	}
}

// middling is a kind of floats of which P14.7 speaks: of one size, of all sizes, with many noughts, of few wholes.
func (d *dice) middling() func() float64 {
	or := func(nought int, throw func() float64) func() float64 {
		return func() float64 {
			if d.below(8) < nought {
				return list{0, minusNought}[d.below(2)]
			}
			return throw()
		}
	}
	switch d.below(5) {
	case 0:
		return func() float64 { return d.part(-40, 40) }
	case 1:
		return or(4, func() float64 { return d.part(-40, 40) })
	case 2:
		return or(1, func() float64 { return d.part(0, 1) })
	case 3:
		return or(2, func() float64 { return math.Ldexp(1, d.below(81)-40) })
	}
	return func() float64 { return d.whole(3) }
}

func TestP14_7(t *testing.T) {
	d := newDice()
	solved := 0
	for range 4000 {
		n := 1 + d.below(8)
		throw := d.middling()
		a, b := d.system(n, throw), d.list(n, d.middling())
		x, e := solve.Solve(a, b)
		if e == api.OK {
			solved++
			checkBack(t, a, b, x)
		}
	}
	if solved < 2000 {
		t.Errorf("only %d", solved)
	}
}

// Pivots that double what stands behind them at each step, and systems that are nearly singular.
func TestP14_7Hard(t *testing.T) {
	for n := 1; n <= 8; n++ {
		doubling, hilbert, steep := make(rows, n), make(rows, n), make(rows, n)
		b := make(list, n)
		for i := range n {
			doubling[i], hilbert[i], steep[i] = make(list, n), make(list, n), make(list, n)
			b[i] = 1 / float64(i+3)
			for j := range n {
				switch {
				case j == n-1, i == j:
					doubling[i][j] = 1
				case i > j:
					doubling[i][j] = -1
				}
				hilbert[i][j] = 1 / float64(i+j+1)
				steep[i][j] = math.Pow(float64(i+1)/4, float64(j))
			}
		}
		for _, a := range []rows{doubling, hilbert, steep} {
			x, e := solve.Solve(a, b)
			if e != api.OK {
				t.Fatalf("Solve(%v, %v): %d", a, b, int(e))
			}
			checkBack(t, a, b, x)
		}
	}
}

func TestP14_8EachOnce(t *testing.T) {
	d := newDice()
	told := 0
	for i := range 10000 {
		n := 1 + d.below(12)
		if i%1000 == 0 {
			n = most
		}
		numbers, e := solve.Pivots(d.system(n, d.thrower()))
		if e != api.OK {
			continue
		}
		told++
		once := make([]bool, n)
		for _, k := range numbers {
			if k < 0 || k >= n || once[k] {
				t.Fatalf("%d of %d", numbers, n)
			}
			once[k] = true
		}
		if len(numbers) != n {
			t.Fatalf("%d of %d", numbers, n)
		}
	}
	if told < 3000 {
		t.Errorf("only %d", told)
	}
}

// The noughts beside the floats may have either sign.
func TestP14_8WithoutImaginaryParts(t *testing.T) {
	d := newDice()
	nought := func() float64 { return list{0, minusNought}[d.below(2)] }
	told := 0
	for range 30000 {
		n := 1 + d.below(6)
		throw := d.thrower()
		a, b := d.system(n, throw), d.list(n, throw)
		x, e := solve.Solve(a, b)
		if e != api.OK {
			continue
		}
		told++
		p, q := make(planes, n), make(places, n)
		for i, row := range a {
			p[i], q[i] = make(places, n), complex(b[i], nought())
			for j, c := range row {
				p[i][j] = complex(c, nought())
			}
		}
		wantLike(t, p, q, flatList(x))
	}
	if told < 8000 {
		t.Errorf("only %d", told)
	}
}

func mirrored(l places) places {
	out := make(places, len(l))
	for i, c := range l {
		out[i] = parts.Conj(c)
	}
	return out
}

func TestP14_8Mirrored(t *testing.T) {
	d, s := newDice(), seen{}
	for range 30000 {
		n := 1 + d.below(5)
		throw := d.thrower()
		a, b := d.planes(n, throw), d.places(n, throw)
		image := make(planes, n)
		for i, row := range a {
			image[i] = mirrored(row)
		}
		x, e := solve.Complex(a, b)
		y, f := solve.Complex(image, mirrored(b))
		s[e]++
		if e != f || !alike(y, mirrored(x), parts.Like) {
			t.Errorf("Complex(%x, %x): %x, %d, mirrored %x, %d", a, b, x, int(e), y, int(f))
		}
	}
	s.atLeast(t, 5000, api.OK, api.ErrSingular)
}
