package elem_test

import (
	"math"
	"math/big"
	"testing"

	"eddy/elem"
)

// The true values, in numbers of so many bits that their own errors are nothing beside a unit.
const bits = 240

func number() *big.Float             { return new(big.Float).SetPrec(bits) }
func exactly(x float64) *big.Float   { return number().SetFloat64(x) }
func add(a, b *big.Float) *big.Float { return number().Add(a, b) }
func mul(a, b *big.Float) *big.Float { return number().Mul(a, b) }
func div(a, b *big.Float) *big.Float { return number().Quo(a, b) }
func neg(a *big.Float) *big.Float    { return number().Neg(a) }

// tiny tells whether a adds nothing to sum any more.
func tiny(a, sum *big.Float) bool {
	return a.Sign() == 0 || a.MantExp(nil) < sum.MantExp(nil)-bits
}

// trueOdd is the logarithm of (1 + f) / (1 - f), by its series.
func trueOdd(f *big.Float) *big.Float {
	square, power, sum := mul(f, f), f, f
	for k := 3; ; k += 2 {
		power = mul(power, square)
		term := div(power, exactly(float64(k)))
		if tiny(term, sum) {
			return mul(sum, exactly(2))
		}
		sum = add(sum, term)
	}
}

var trueTwo = trueOdd(div(exactly(1), exactly(3)))

// trueLog is the logarithm of a.
func trueLog(a *big.Float) *big.Float {
	m := number()
	e := a.MantExp(m)
	if m.Cmp(exactly(0.7)) < 0 {
		m, e = mul(m, exactly(2)), e-1
	}
	f := div(add(m, exactly(-1)), add(m, exactly(1)))
	return add(mul(exactly(float64(e)), trueTwo), trueOdd(f))
}

// trueSeries is the exponential less 1 of a small number, by its series.
func trueSeries(a *big.Float) *big.Float {
	term, sum := a, a
	for k := 2; ; k++ {
		term = div(mul(term, a), exactly(float64(k)))
		if tiny(term, sum) {
			return sum
		}
		sum = add(sum, term)
	}
}

func trueExp(x float64) *big.Float {
	n := math.Round(x / math.Ln2)
	rest := add(exactly(x), neg(mul(exactly(n), trueTwo)))
	e := add(exactly(1), trueSeries(rest))
	return e.SetMantExp(e, int(n))
}

func trueLess(x float64) *big.Float {
	if math.Abs(x) < 1 {
		return trueSeries(exactly(x))
	}
	return add(trueExp(x), exactly(-1))
}

func trueMore(x float64) *big.Float {
	if math.Abs(x) < 0.5 {
		return trueOdd(div(exactly(x), add(exactly(2), exactly(x))))
	}
	return trueLog(add(exactly(1), exactly(x)))
}

func trueCosh(x float64) *big.Float {
	return mul(add(trueExp(x), trueExp(-x)), exactly(0.5))
}

func trueSinh(x float64) *big.Float {
	e := trueLess(math.Abs(x))
	half := mul(add(e, div(e, add(e, exactly(1)))), exactly(0.5))
	if x < 0 {
		return neg(half)
	}
	return half
}

// unit is a unit of the last place of a true value.
func unit(v *big.Float) *big.Float {
	e := max(min(v.MantExp(nil), 1024)-53, -1074)
	return number().SetMantExp(exactly(1), e)
}

func near(t *testing.T, name string, x, got float64, truth *big.Float, units int) {
	t.Helper()
	far := add(exactly(got), neg(truth))
	if far.Abs(far).Cmp(mul(exactly(float64(units)), unit(truth))) > 0 {
		t.Errorf("%s of %x: %x is more than %d units from the true value", name, x, got, units)
	}
}

func isFinite(x float64) bool { return math.Abs(x) <= greatest }

func TestP4_6ExpIsNear(t *testing.T) {
	bound := add(exactly(greatest), exactly(-0x1p973)) // the greatest float less 4 of its units
	normal := exactly(0x1p-1022)
	for _, x := range many(4000) {
		if !(math.Abs(x) < 800) {
			continue
		}
		got, truth := elem.Exp(x), trueExp(x)
		if !isFinite(got) {
			if truth.Cmp(bound) <= 0 {
				t.Errorf("Exp of %x is infinite", x)
			}
			continue
		}
		units := 4
		if truth.Cmp(normal) < 0 {
			units = 5
		}
		near(t, "Exp", x, got, truth, units)
	}
}

func TestP4_6LogIsNear(t *testing.T) {
	for _, x := range many(4000) {
		if x > 0 && isFinite(x) && x != 1 {
			near(t, "Log", x, elem.Log(x), trueLog(exactly(x)), 4)
		}
	}
}

func TestP4_6LessIsNear(t *testing.T) {
	for _, x := range many(4000) {
		if got := elem.Less(x); x != 0 && math.Abs(x) < 800 && isFinite(got) {
			near(t, "Less", x, got, trueLess(x), 16)
		}
	}
}

func TestP4_6MoreIsNear(t *testing.T) {
	for _, x := range many(4000) {
		if x > -1 && x != 0 && isFinite(x) {
			near(t, "More", x, elem.More(x), trueMore(x), 16)
		}
	}
}

func TestP4_6CoshAndSinhAreNear(t *testing.T) {
	for _, x := range many(4000) {
		cosh, sinh := elem.Cosh(x), elem.Sinh(x)
		if !isFinite(cosh) || !isFinite(sinh) {
			if math.Abs(x) <= 709.78 {
				t.Errorf("Cosh and Sinh of %x: %x, %x", x, cosh, sinh)
			}
			continue
		}
		if x != 0 {
			near(t, "Cosh", x, cosh, trueCosh(x), 16)
			near(t, "Sinh", x, sinh, trueSinh(x), 16)
		}
	}
}

// TestTrueValues holds the numbers of more bits against digits that are known.
func TestTrueValues(t *testing.T) {
	for _, c := range []struct {
		got    *big.Float
		digits string
	}{
		{trueTwo, "0.69314718055994530941723212145817656807550013436026"},
		{trueExp(1), "2.7182818284590452353602874713526624977572470936999"},
		{trueExp(-1), "0.36787944117144232159552377016146086744581113103177"},
		{trueLog(exactly(10)), "2.3025850929940456840179914546843642076011014886288"},
		{trueLess(0.5), "0.64872127070012814684865078781416357165377610071014"},
		{trueMore(0.25), "0.22314355131420975576629509030983450337460108554800"},
		{trueCosh(1), "1.5430806348152437784779056207570616826015291123659"},
		{trueSinh(1), "1.1752011936438014568823818505956008151557179813341"},
	} {
		want, _, _ := big.ParseFloat(c.digits, 10, bits, big.ToNearestEven)
		if far := add(c.got, neg(want)); far.Abs(far).Cmp(exactly(1e-47)) > 0 {
			t.Errorf("%s: %s", c.digits, c.got.Text('g', 50))
		}
	}
}
