package power_test

import (
	"math"
	"math/big"
	"testing"

	"eddy/elem"
	"eddy/parts"
	"eddy/power"
)

// The true values, in numbers of so many bits that their own errors are nothing beside the bounds.
const bits = 240

func number() *big.Float             { return new(big.Float).SetPrec(bits) }
func exactly(x float64) *big.Float   { return number().SetFloat64(x) }
func add(a, b *big.Float) *big.Float { return number().Add(a, b) }
func sub(a, b *big.Float) *big.Float { return number().Sub(a, b) }
func mul(a, b *big.Float) *big.Float { return number().Mul(a, b) }
func div(a, b *big.Float) *big.Float { return number().Quo(a, b) }
func abs(a *big.Float) *big.Float    { return number().Abs(a) }

// tiny tells whether a adds nothing to sum any more.
func tiny(a, sum *big.Float) bool {
	return a.Sign() == 0 || a.MantExp(nil) < sum.MantExp(nil)-bits
}

// oddSeries is the sum of u^k / k over the odd k; with signs in turn it is the angle of the tangent u, without them half a logarithm.
func oddSeries(u *big.Float, inTurn bool) *big.Float {
	square, power, sum := mul(u, u), u, u
	if inTurn {
		square.Neg(square)
	}
	for k := 3; ; k += 2 {
		power = mul(power, square)
		term := div(power, exactly(float64(k)))
		if tiny(term, sum) {
			return sum
		}
		sum = add(sum, term)
	}
}

// Pi is by Machin's rule, the logarithm of 2 by that of (1 + 1/3) / (1 - 1/3).
var (
	truePi = sub(mul(exactly(16), oddSeries(div(exactly(1), exactly(5)), true)), mul(exactly(4), oddSeries(div(exactly(1), exactly(239)), true)))
	trueLn = mul(exactly(2), oddSeries(div(exactly(1), exactly(3)), false))
)

// less is x less so many times step that at most about half of step is left.
func less(x float64, step *big.Float) (rest *big.Float, n int) {
	s, _ := step.Float64()
	n = int(math.Round(x / s))
	return sub(exactly(x), mul(exactly(float64(n)), step)), n
}

func trueExp(x float64) *big.Float {
	r, n := less(x, trueLn)
	term, sum := exactly(1), exactly(1)
	for k := 1; k < 80; k++ {
		term = div(mul(term, r), exactly(float64(k)))
		sum = add(sum, term)
	}
	return sum.SetMantExp(sum, n)
}

// trueTurn is sine and cosine, by their series, less whole circles first.
func trueTurn(x float64) (sin, cos *big.Float) {
	y, _ := less(x, mul(exactly(2), truePi))
	sums := [2]*big.Float{exactly(1), y}
	term := y
	for k := 2; k < 120; k++ {
		term = div(mul(term, y), exactly(float64(k)))
		if k%4 == 2 || k%4 == 3 {
			sums[k%2] = sub(sums[k%2], term)
		} else {
			sums[k%2] = add(sums[k%2], term)
		}
	}
	return sums[1], sums[0]
}

// near tells where got is farther from the truth than the bound.
func near(t *testing.T, name string, a any, got float64, truth, bound *big.Float) {
	t.Helper()
	if far := abs(sub(exactly(got), truth)); far.Cmp(bound) > 0 {
		t.Errorf("%s of %x: %x is %s from the true value", name, a, got, far.Text('g', 5))
	}
}

func TestTrueValues(t *testing.T) {
	s, c := trueTurn(1)
	for i, row := range []struct {
		got  *big.Float
		want string
	}{
		{truePi, "3.14159265358979323846264338327950288419716939937510582097494459"},
		{trueExp(1), "2.71828182845904523536028747135266249775724709369995957496696763"},
		{s, "0.841470984807896506652502321630298999622563060798371065672751710"},
		{c, "0.540302305868139717400936607442976603732310420617922227670097255"},
	} {
		truth, _, _ := big.ParseFloat(row.want, 10, bits, big.ToNearestEven)
		if abs(sub(row.got, truth)).Cmp(exactly(1e-60)) > 0 {
			t.Error(i, row.got.Text('g', 60))
		}
	}
}

// angles are those at the quarters, at the ends and among them.
func angles(d *dice) []float64 {
	l := []float64{0, minusNought, least, -least, 1e-10, 0x1p20, -0x1p20, 0x1p20 - 1, d.between(0x1p20), d.between(4), d.part(19), d.part(2)}
	for _, n := range []float64{1, 2, 3, 4, 5, 1000, 333771, 667543} {
		x := n * (half / 2)
		l = append(l, x, -x, math.Nextafter(x, 0), math.Nextafter(x, infinite))
	}
	return l
}

func TestP7_5ExpIsNear(t *testing.T) {
	d := newDice()
	xs := []float64{0, minusNought, least, 1, -1, 0x1p-30, 709.78, 709.7, -693.1, -693.14, 350, -350, 0.34657359027997264, -0.34657359027997264}
	for range 200 {
		xs = append(xs, d.between(709), d.between(2), d.part(6))
	}
	asked := 0
	for _, x := range xs {
		e := elem.Exp(x)
		if !(e <= greatest && e >= 0x1p-1000) {
			continue
		}
		truth, bound := trueExp(x), mul(exactly(0x1p-48), exactly(e))
		for _, y := range angles(d) {
			if math.Abs(y) > 0x1p20 {
				continue
			}
			a := complex(x, y)
			got := power.Exp(a)
			s, c := trueTurn(y)
			near(t, "Exp's real part", a, real(got), mul(truth, c), bound)
			near(t, "Exp's imaginary part", a, imag(got), mul(truth, s), bound)
			asked++
		}
	}
	if asked < 10000 {
		t.Error("too few numbers were asked:", asked)
	}
}

func TestP7_5LogOfExp(t *testing.T) {
	d := newDice()
	l := pairs([]float64{0, minusNought, 3, -3, 1, -1, 0.5, least, -least, 1e-20, 2.9999999999, 1.5707963267948966, -1.5707963267948966, 0.785398})
	for _, x := range []float64{700, -700, 699.9, -699.9, 345, -345} {
		for _, y := range []float64{0, minusNought, 3, -3, 1.5707963267948966, least, 1} {
			l = append(l, complex(x, y))
		}
	}
	for range 100000 {
		l = append(l, complex(d.between(700), d.between(3)), complex(d.between(2), d.between(3)), complex(d.part(6), d.between(3)), complex(d.between(0x1p-20), d.between(0x1p-20)))
	}
	for _, a := range l {
		got := power.Log(power.Exp(a))
		bound := exactly(0x1p-46 * max(1, math.Abs(real(a))))
		near(t, "Log of Exp, its real part,", a, real(got), exactly(real(a)), bound)
		near(t, "Log of Exp, its imaginary part,", a, imag(got), exactly(imag(a)), bound)
	}
}

// trueProduct is a times b, rounded nowhere that counts.
func trueProduct(a, b complex128) (x, y *big.Float) {
	p, q, r, s := exactly(real(a)), exactly(imag(a)), exactly(real(b)), exactly(imag(b))
	return sub(mul(p, r), mul(q, s)), add(mul(p, s), mul(q, r))
}

func TestP7_5PowersThereAndBack(t *testing.T) {
	d := newDice()
	asked := 0
	back := func(a complex128, p float64) {
		one, other := power.Real(a, p), power.Real(a, -p)
		if !isFinite(one) || !isFinite(other) || !(math.Abs(real(parts.Scale(power.Log(a), p))) <= 700) {
			return
		}
		asked++
		x, y := trueProduct(one, other)
		if sub(x, exactly(1)).Cmp(exactly(0x1p-46)) > 0 || sub(exactly(1), x).Cmp(exactly(0x1p-46)) > 0 || abs(y).Cmp(exactly(0x1p-46)) > 0 {
			t.Errorf("Real(%x, %x) and the one by its opposite: %x, %x", a, p, one, other)
		}
		if c := parts.Mul(one, other); !(math.Abs(real(c)-1) <= 0x1p-46 && math.Abs(imag(c)) <= 0x1p-46) {
			t.Errorf("Real(%x, %x) times the one by its opposite: %x", a, p, c)
		}
	}
	for _, a := range many(30000) {
		back(a, d.power())
		if size := math.Abs(real(power.Log(a))); size > 0 {
			back(a, 700/size) // as far as it is promised
			back(a, -699.9/size)
		}
	}
	for _, a := range []complex128{1, -1, 1i, complex(1, -1), complex(-1, minusNought)} {
		back(a, 300000) // great angles
		back(a, -0x1p18)
		back(a, 0)
	}
	if asked < 20000 {
		t.Error("too few powers were asked:", asked)
	}
}
