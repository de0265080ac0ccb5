package whole_test

import (
	"math"
	"math/big"
	"testing"

	"eddy/whole"
)

// bigPoint is a complex number of whole parts, by the library's numbers.
type bigPoint struct{ re, im *big.Int }

func (d *dice) point(most int) bigPoint { return bigPoint{d.whole(most), d.whole(most)} }

func (a bigPoint) plus(b bigPoint) bigPoint {
	return bigPoint{new(big.Int).Add(a.re, b.re), new(big.Int).Add(a.im, b.im)}
}

func (a bigPoint) times(b bigPoint) bigPoint {
	product := func(x, y *big.Int) *big.Int { return new(big.Int).Mul(x, y) }
	re, im := product(a.re, b.re), product(a.re, b.im)
	return bigPoint{re.Sub(re, product(a.im, b.im)), im.Add(im, product(a.im, b.re))}
}

func (a bigPoint) conj() bigPoint { return bigPoint{a.re, new(big.Int).Neg(a.im)} }

func pointOf(t *testing.T, a bigPoint) whole.Point {
	t.Helper()
	return whole.Point{Re: of(t, a.re), Im: of(t, a.im)}
}

func wantPoint(t *testing.T, what string, got whole.Point, ought bigPoint) {
	t.Helper()
	want(t, what+", re", got.Re, ought.re)
	want(t, what+", im", got.Im, ought.im)
}

func TestPoints(t *testing.T) {
	d := newDice()
	for range 5000 {
		x, y := d.point(4), d.point(4)
		a, b := pointOf(t, x), pointOf(t, y)
		wantPoint(t, "Plus", a.Plus(b), x.plus(y))
		wantPoint(t, "Minus", a.Minus(b), x.plus(y.times(bigPoint{big.NewInt(-1), new(big.Int)})))
		wantPoint(t, "Times", a.Times(b), x.times(y))
		wantPoint(t, "Scale", a.Scale(b.Re), x.times(bigPoint{y.re, new(big.Int)}))
		wantPoint(t, "Quarter", a.Quarter(), x.times(bigPoint{new(big.Int), big.NewInt(1)}))
		want(t, "Norm", a.Norm(), x.times(x.conj()).re)
		want(t, "Cross", a.Cross(b), x.conj().times(y).im)
		n := d.below(200)
		wantPoint(t, "Left", a.Left(n), x.times(bigPoint{new(big.Int).Lsh(big.NewInt(1), uint(n)), new(big.Int)}))
	}
}

// inUnits is how many times 2 to the power of unit a is, which must be whole.
func inUnits(t *testing.T, a float64, unit int) *big.Int {
	t.Helper()
	x := new(big.Float).SetFloat64(a)
	x.SetMantExp(x, -unit)
	n, accuracy := x.Int(nil)
	if accuracy != big.Exact {
		t.Fatalf("%v is no whole number of units of 2^%d", a, unit)
	}
	return n
}

func TestGrid(t *testing.T) {
	d := newDice()
	float := func() float64 { return math.Ldexp(float64(int64(d.word())>>d.below(60)), -d.below(1090)) }
	for _, l := range [][]complex128{nil, {0}, {complex(math.Copysign(0, -1), 0)}, {0x1p-1074, math.MaxFloat64}, {3, 4i}, {0x1p90}} {
		checkGrid(t, l)
	}
	for range 2000 {
		l := make([]complex128, d.below(5))
		for i := range l {
			l[i] = complex(float(), float())
		}
		checkGrid(t, l)
	}
}

func checkGrid(t *testing.T, l []complex128) {
	t.Helper()
	points, unit := whole.Grid(l)
	if len(points) != len(l) || unit > 0 {
		t.Fatalf("Grid(%v): %d points, the unit 2^%d", l, len(points), unit)
	}
	for i, a := range l {
		wantPoint(t, "Grid", points[i], bigPoint{inUnits(t, real(a), unit), inUnits(t, imag(a), unit)})
	}
}

// The value of stretched coefficients at a place in units is the true one, in units of its own.
func TestValue(t *testing.T) {
	d := newDice()
	for range 1000 {
		l := make([]complex128, 1+d.below(6))
		for i := range l {
			l[i] = complex(float64(d.below(2001)-1000)/64, float64(d.below(2001)-1000)/8)
		}
		z := complex(float64(d.below(2001)-1000)/16, float64(d.below(2001)-1000)/32)
		coefficients, unit := whole.Grid(l)
		places, placeUnit := whole.Grid([]complex128{z})
		got := whole.Value(whole.Stretched(coefficients, placeUnit), places[0])
		sum, power := bigPoint{new(big.Int), new(big.Int)}, bigPoint{big.NewInt(1), new(big.Int)}
		for i, c := range l { // all in units of 2^-6 times those of 2^-5 by the power i
			left := uint(5 * (len(l) - 1 - i))
			term := power.times(bigPoint{inUnits(t, real(c), -6), inUnits(t, imag(c), -6)})
			sum = sum.plus(bigPoint{term.re.Lsh(term.re, left), term.im.Lsh(term.im, left)})
			power = power.times(bigPoint{inUnits(t, real(z), -5), inUnits(t, imag(z), -5)})
		}
		more := uint(unit + 6 + (placeUnit+5)*(len(l)-1))
		wantPoint(t, "Value", got.Left(int(more)), sum)
	}
	if v := whole.Value(nil, whole.Point{}); v.Re.Sign() != 0 || v.Im.Sign() != 0 {
		t.Error("the value of nothing is not nought")
	}
}
