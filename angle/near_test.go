package angle_test

import (
	"math"
	"math/big"
	"testing"

	"eddy/angle"
)

// The true values, in numbers of so many bits that their own errors are nothing beside the bounds.
const bits = 240

func number() *big.Float             { return new(big.Float).SetPrec(bits) }
func exactly(x float64) *big.Float   { return number().SetFloat64(x) }
func add(a, b *big.Float) *big.Float { return number().Add(a, b) }
func sub(a, b *big.Float) *big.Float { return number().Sub(a, b) }
func mul(a, b *big.Float) *big.Float { return number().Mul(a, b) }
func div(a, b *big.Float) *big.Float { return number().Quo(a, b) }
func abs(a *big.Float) *big.Float    { return number().Abs(a) }

// tiny tells whether a adds nothing to sum any more.
func tiny(a, sum *big.Float) bool {
	return a.Sign() == 0 || a.MantExp(nil) < sum.MantExp(nil)-bits
}

// arcSeries is the angle of a small tangent, by its series.
func arcSeries(u *big.Float) *big.Float {
	square, power, sum := mul(u, u), u, u
	for k := 3; ; k += 2 {
		power = number().Neg(mul(power, square))
		term := div(power, exactly(float64(k)))
		if tiny(term, sum) {
			return sum
		}
		sum = add(sum, term)
	}
}

// truePi is by Machin's rule.
var truePi = sub(mul(exactly(16), arcSeries(div(exactly(1), exactly(5)))), mul(exactly(4), arcSeries(div(exactly(1), exactly(239)))))

// trueArc is the angle of a tangent that is not below nought: it is halved till its series falls fast.
func trueArc(u *big.Float) *big.Float {
	halved := 0
	for u.Cmp(exactly(0.1)) > 0 {
		root := number().Sqrt(add(exactly(1), mul(u, u)))
		u = div(u, add(exactly(1), root))
		halved++
	}
	b := arcSeries(u)
	return b.SetMantExp(b, halved)
}

// trueOf is the angle of a place with finite numbers, one of them not nought.
func trueOf(y, x float64) *big.Float {
	p, q := exactly(math.Abs(y)), exactly(math.Abs(x))
	var b *big.Float
	if p.Cmp(q) <= 0 {
		b = trueArc(div(p, q))
	} else {
		b = sub(div(truePi, exactly(2)), trueArc(div(q, p)))
	}
	if math.Signbit(x) {
		b = sub(truePi, b)
	}
	if math.Signbit(y) {
		b.Neg(b)
	}
	return b
}

// nearestWhole is a to the nearest whole number.
func nearestWhole(a *big.Float) *big.Float {
	half := 0.5
	if a.Sign() < 0 {
		half = -0.5
	}
	n, _ := add(a, exactly(half)).Int(nil)
	return number().SetInt(n)
}

// trueTurn is sine and cosine, by their series, less whole circles first.
func trueTurn(x float64) (sin, cos *big.Float) {
	circle := mul(exactly(2), truePi)
	y := sub(exactly(x), mul(nearestWhole(div(exactly(x), circle)), circle))
	sums := [2]*big.Float{exactly(1), y}
	term := y
	for k := 2; k < 120; k++ {
		term = div(mul(term, y), exactly(float64(k)))
		if k%4 == 2 || k%4 == 3 {
			sums[k%2] = sub(sums[k%2], term)
		} else {
			sums[k%2] = add(sums[k%2], term)
		}
	}
	return sums[1], sums[0]
}

func near(t *testing.T, name string, x, got float64, truth, bound *big.Float) {
	t.Helper()
	if far := abs(sub(exactly(got), truth)); far.Cmp(bound) > 0 {
		t.Errorf("%s of %x: %x is %s from the true value", name, x, got, far.Text('g', 5))
	}
}

// ofItself is 2^-50 of a true value, and the least float.
func ofItself(truth *big.Float) *big.Float {
	return add(mul(exactly(0x1p-50), abs(truth)), exactly(least))
}

// some is every how manieth of a list, and its edges.
func some(l []float64, each int) []float64 {
	m := append(edges(), about(high/4)...)
	for i := 0; i < len(l); i += each {
		m = append(m, l[i])
	}
	return m
}

func TestP5_7TurnIsNear(t *testing.T) {
	for _, x := range some(many(20000), 7) {
		if !isFit(x) {
			continue
		}
		sin, cos := angle.Turn(x)
		trueSin, trueCos := trueTurn(x)
		near(t, "the sine", x, sin, trueSin, exactly(0x1p-50))
		near(t, "the cosine", x, cos, trueCos, exactly(0x1p-50))
		if math.Abs(x) <= 0.75 {
			near(t, "the small sine", x, sin, trueSin, ofItself(trueSin))
		}
	}
}

func TestP5_7QuarterIsNear(t *testing.T) {
	for _, x := range many(20000) {
		if !isFit(x) {
			continue
		}
		rest, n := angle.Quarter(x)
		if !(math.Abs(rest) < 0.786) || n < 0 || n > 3 {
			t.Errorf("Quarter of %x: %x and %d", x, rest, n)
		}
		m := math.RoundToEven(times(x, per))
		truth := sub(exactly(x), mul(exactly(m), div(truePi, exactly(2))))
		near(t, "Quarter", x, rest, truth, exactly(0x1p-51))
	}
}

func TestP5_7WrapIsNear(t *testing.T) {
	circle := mul(exactly(2), truePi)
	for _, x := range many(20000) {
		if !isFit(x) {
			continue
		}
		y := angle.Wrap(x)
		circles := nearestWhole(div(sub(exactly(x), exactly(y)), circle))
		near(t, "Wrap", x, y, sub(exactly(x), mul(circles, circle)), exactly(0x1p-49))
	}
}

func TestP5_8OfIsNear(t *testing.T) {
	all := places(1500)
	for i, p := range all {
		if i < len(all)-4500 && i%9 != 0 || !(math.Abs(p.y) <= greatest && math.Abs(p.x) <= greatest) || p.y == 0 && p.x == 0 {
			continue
		}
		near(t, "Of", p.x, angle.Of(p.y, p.x), trueOf(p.y, p.x), exactly(0x1p-49))
	}
}

func TestP5_8TanIsNear(t *testing.T) {
	for _, x := range some(many(20000), 17) {
		if !(math.Abs(x) <= greatest) {
			continue
		}
		truth := trueOf(x, 1)
		near(t, "Tan", x, angle.Tan(x), truth, exactly(0x1p-50))
		if math.Abs(x) <= bend {
			near(t, "the small Tan", x, angle.Tan(x), truth, ofItself(truth))
		}
	}
}

// TestTrueValues holds the numbers of more bits against digits that are known.
func TestTrueValues(t *testing.T) {
	sin, cos := trueTurn(1)
	farSin, farCos := trueTurn(-1048576)
	for _, c := range []struct {
		got    *big.Float
		digits string
	}{
		{truePi, "3.1415926535897932384626433832795028841971693993751"},
		{sin, "0.84147098480789650665250232163029899962256306079837"},
		{cos, "0.54030230586813971740093660744297660373231042061792"},
		{farSin, "-0.33049314002173467163973095907128208807872668874013"},
		{farCos, "0.94380839390131198400616312632124898749897202849206"},
		{trueOf(1, 2), "0.46364760900080611621425623146121440202853705428612"},
		{trueOf(-2, -1), "-2.0344439357957027354455779231009658441271217539737"},
		{trueArc(exactly(0.09375)), "0.093476781158589463504527193312060478823164946774363"},
	} {
		want, _, err := big.ParseFloat(c.digits, 10, bits, big.ToNearestEven)
		if err != nil {
			t.Fatal(err)
		}
		if far := abs(sub(c.got, want)); far.Cmp(exactly(1e-45)) > 0 {
			t.Errorf("%s: %s", c.digits, c.got.Text('g', 50))
		}
	}
}
