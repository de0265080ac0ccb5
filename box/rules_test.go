package box_test

import (
	"math"
	"math/big"
	"testing"

	"eddy/api"
	"eddy/box"
)

// exact is a place of real numbers, floats or not.
type exact struct{ re, im *big.Rat }

func rat(x float64) *big.Rat { return new(big.Rat).SetFloat64(x) }

func exactly(a complex128) exact { return exact{rat(real(a)), rat(imag(a))} }

func (a exact) plus(b exact) exact {
	return exact{new(big.Rat).Add(a.re, b.re), new(big.Rat).Add(a.im, b.im)}
}

func (a exact) minus(b exact) exact {
	return exact{new(big.Rat).Sub(a.re, b.re), new(big.Rat).Sub(a.im, b.im)}
}

func (a exact) times(b exact) exact {
	mul := func(x, y *big.Rat) *big.Rat { return new(big.Rat).Mul(x, y) }
	return exact{
		new(big.Rat).Sub(mul(a.re, b.re), mul(a.im, b.im)),
		new(big.Rat).Add(mul(a.re, b.im), mul(a.im, b.re)),
	}
}

func (a exact) norm() *big.Rat {
	return new(big.Rat).Add(new(big.Rat).Mul(a.re, a.re), new(big.Rat).Mul(a.im, a.im))
}

// turned is asked of places other than nought.
func (a exact) turned() exact {
	n := a.norm()
	return exact{new(big.Rat).Quo(a.re, n), new(big.Rat).Quo(new(big.Rat).Neg(a.im), n)}
}

// between is a float's worth or what lies between two floats, k of 7 parts on.
func between(a, b float64, k int) *big.Rat {
	way := new(big.Rat).Sub(rat(b), rat(a))
	return new(big.Rat).Add(rat(a), way.Mul(way, big.NewRat(int64(k), 7)))
}

// place is one of a box: an end in either part, or anything between.
func (d *dice) place(b api.Box) exact {
	step := func() int { return []int{0, 0, 7, 7, 1 + d.below(6)}[d.below(5)] }
	return exact{between(real(b.Low), real(b.High), step()), between(imag(b.Low), imag(b.High), step())}
}

func holds(b api.Box, z exact) bool {
	return z.re.Cmp(rat(real(b.Low))) >= 0 && z.re.Cmp(rat(real(b.High))) <= 0 &&
		z.im.Cmp(rat(imag(b.Low))) >= 0 && z.im.Cmp(rat(imag(b.High))) <= 0
}

// wantHold looks at a box where it is told, and whether one was.
func wantHold(t *testing.T, what string, z exact, b api.Box, e api.Errno) int {
	t.Helper()
	if e != api.OK {
		return 0
	}
	if !mayBe(b) || !holds(b, z) {
		t.Errorf("%s: %v is not in %x", what, z, b)
	}
	return 1
}

// of exact values, sums of powers: not steps from the last coefficient on.
func exactValue(l list, z exact) exact {
	sum, p := exactly(0), exactly(1)
	for _, c := range l {
		sum = sum.plus(exactly(c).times(p))
		p = p.times(z)
	}
	return sum
}

func exactSlope(l list, z exact) exact {
	sum, p := exactly(0), exactly(1)
	for i, c := range l[1:] {
		sum = sum.plus(exactly(c).times(p).times(exactly(complex(float64(i+1), 0))))
		p = p.times(z)
	}
	return sum
}

// checkEnclosed asks all calls of two boxes, and tells how many boxes were told.
func checkEnclosed(t *testing.T, a, b api.Box, x, y exact) (n int) {
	t.Helper()
	got, e := box.Add(a, b)
	n += wantHold(t, "Add", x.plus(y), got, e)
	got, e = box.Sub(a, b)
	n += wantHold(t, "Sub", x.minus(y), got, e)
	got, e = box.Mul(a, b)
	n += wantHold(t, "Mul", x.times(y), got, e)
	if x.norm().Sign() != 0 {
		got, e = box.Turned(a)
		n += wantHold(t, "Turned", x.turned(), got, e)
	} else if got, e = box.Turned(a); e != api.ErrPlace {
		t.Errorf("Turned(%x): %x, %d, though nought lies in it", a, got, int(e))
	}
	return n
}

func TestP11_8Enclosed(t *testing.T) {
	d := newDice()
	n := 0
	for range 3000 {
		a, b := d.box(), d.box()
		for range 2 {
			n += checkEnclosed(t, a, b, d.place(a), d.place(b))
		}
		a, b = d.plain(), d.plain()
		for range 4 {
			n += checkEnclosed(t, a, b, d.place(a), d.place(b))
		}
	}
	if n < 40000 {
		t.Errorf("only %d", n)
	}
}

// Boxes of floats that lie about where products underflow, and where they pass all floats.
func TestP11_8Ends(t *testing.T) {
	d := newDice()
	n := 0
	for range 3000 {
		power := []int{-1074, -1022, -538, -537, -500, 500, 511}[d.below(7)]
		f := func() float64 { return math.Ldexp(float64(d.below(17)-8)+float64(d.below(4))/4, power) }
		a, _ := box.Make(complex(f(), f()), complex(f(), f()))
		b, _ := box.Make(complex(f(), f()), complex(f(), f()))
		n += checkEnclosed(t, a, b, d.place(a), d.place(b))
		n += checkEnclosed(t, at(a.Low), at(b.High), exactly(a.Low), exactly(b.High))
	}
	if n < 10000 {
		t.Errorf("only %d", n)
	}
}

func TestP11_8Poly(t *testing.T) {
	d := newDice()
	n := 0
	check := func(l list, b api.Box) {
		z := d.place(b)
		got, e := box.Poly(l, b)
		n += wantHold(t, "Poly", exactValue(l, z), got, e)
		got, e = box.Slope(l, b)
		n += wantHold(t, "Slope", exactSlope(l, z), got, e)
	}
	for range 2000 {
		check(d.polynomial(5, 4), d.plain())
		check(d.polynomial(5, 4), at(d.plain().Low))
		check(d.polynomial(3, 40), d.plain())
	}
	for range 300 {
		check(d.polynomial(3, 40), d.box())
	}
	for range 15 {
		check(append(d.polynomial(62, 2), 1, 1i), of(-0.75, 0.5, 0.25, 0.875))
	}
	if n < 12000 {
		t.Errorf("only %d", n)
	}
}

// inside is a box of floats within another one.
func (d *dice) inside(b api.Box) api.Box {
	one := func(low, high float64) float64 {
		switch d.below(5) {
		case 0:
			return low
		case 1:
			return high
		case 2:
			return math.Min(near(low, d.below(3)), high)
		}
		f, _ := between(low, high, d.below(8)).Float64()
		return math.Min(math.Max(f, low), high)
	}
	place := func() complex128 {
		return complex(one(real(b.Low), real(b.High)), one(imag(b.Low), imag(b.High)))
	}
	a, _ := box.Make(place(), place())
	return a
}

// wantIn asks that the answer of lesser boxes is told and lies in that of greater ones, where that is told.
func wantIn(t *testing.T, what string, less api.Box, lessE api.Errno, more api.Box, moreE api.Errno) int {
	t.Helper()
	if moreE != api.OK {
		return 0
	}
	if lessE != api.OK || !box.In(less, more) || !box.Over(less, more) || !box.Over(more, less) {
		t.Errorf("%s: %x, %d is not in %x", what, less, int(lessE), more)
	}
	return 1
}

func TestP11_9BoxesInBoxes(t *testing.T) {
	d := newDice()
	n := 0
	for i := range 12000 {
		a, b := d.box(), d.box()
		if i%2 == 0 {
			a, b = d.plain(), d.plain()
		}
		x, y := d.inside(a), d.inside(b)
		if !box.In(x, a) || !box.Over(x, a) || !box.Over(a, x) {
			t.Fatalf("%x is not in %x", x, a)
		}
		for _, c := range calls() {
			less, e := c.does(x, y)
			more, f := c.does(a, b)
			n += wantIn(t, c.name, less, e, more, f)
		}
		l := d.polynomial(4, 5)
		less, e := box.Poly(l, x)
		more, f := box.Poly(l, a)
		n += wantIn(t, "Poly", less, e, more, f)
	}
	if n < 40000 {
		t.Errorf("only %d", n)
	}
}

func TestP11_9Quarters(t *testing.T) {
	d := newDice()
	for i := range 12000 {
		b := d.box()
		if i%2 == 0 {
			b = d.plain()
		}
		if m, e := box.Middle(b); e != api.OK || !box.Has(b, m) {
			t.Fatalf("Middle(%x): %x, %d", b, m, int(e))
		}
		four, e := box.Four(b)
		if e != api.OK {
			t.Fatalf("Four(%x): %d", b, int(e))
		}
		wantQuarters(t, b, four)
		for range 3 {
			wantOneOf(t, four, d.place(b))
		}
		wantOneOf(t, four, exactly(d.inside(b).Low))
	}
}

// wantQuarters asks of each of the four whether it lies in the box and is not wider.
func wantQuarters(t *testing.T, b api.Box, four [4]api.Box) {
	t.Helper()
	wide, e := box.Wide(b)
	for _, q := range four {
		if box.Check(q) != api.OK || !box.In(q, b) {
			t.Errorf("%x is not in %x", q, b)
		}
		if w, f := box.Wide(q); e == api.OK && (f != api.OK || w > wide) {
			t.Errorf("%x is %x wide, %d, and %x, of which it is one of four, %x", q, w, int(f), b, wide)
		}
	}
}

func wantOneOf(t *testing.T, four [4]api.Box, z exact) {
	t.Helper()
	for _, q := range four {
		if holds(q, z) {
			return
		}
	}
	t.Errorf("%v is in none of %x", z, four)
}

func TestP11_10EitherWayRound(t *testing.T) {
	d := newDice()
	check := func(a, b api.Box) {
		for _, c := range calls() {
			if c.name != "Add" && c.name != "Mul" {
				continue
			}
			one, e := c.does(a, b)
			other, f := c.does(b, a)
			if e != f || !sameBoxes(one, other) {
				t.Errorf("%s of %x, %x: %x, %d; the other way round %x, %d", c.name, a, b, one, int(e), other, int(f))
			}
		}
	}
	for range 50000 {
		check(d.box(), d.box())
		check(d.plain(), d.plain())
		check(d.box(), d.wild())
	}
	for _, x := range spansOf(finite) {
		for _, y := range spansOf(finite) {
			check(of(x[0], x[1], -1, 2), of(y[0], y[1], 3, 3))
			check(of(-1, 2, x[0], x[1]), of(0, 0, y[0], y[1]))
		}
	}
}
