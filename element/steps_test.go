package element_test

import (
	"testing"

	"eddy/api"
	"eddy/power"
)

// The operations as calls that are not inlined: none of them can be fused with another one.

//go:noinline
func plus(x, y float64) float64 { return x + y }

//go:noinline
func minus(x, y float64) float64 { return x - y }

//go:noinline
func times(x, y float64) float64 { return x * y }

//go:noinline
func over(x, y float64) float64 { return x / y }

func worth(x float64) float64 {
	if x < 0 {
		return -x
	}
	return x
}

// The functions below are chapter 2's words, one operation a call.

func sub(a, b complex128) complex128 {
	return complex(minus(real(a), real(b)), minus(imag(a), imag(b)))
}

func mul(a, b complex128) complex128 {
	return complex(minus(times(real(a), real(b)), times(imag(a), imag(b))), plus(times(real(a), imag(b)), times(imag(a), real(b))))
}

func div(a, b complex128) complex128 {
	p, q, r, s := real(a), imag(a), real(b), imag(b)
	if worth(r) >= worth(s) {
		k := over(s, r)
		t := plus(r, times(s, k))
		return complex(over(plus(p, times(q, k)), t), over(minus(q, times(p, k)), t))
	}
	k := over(r, s)
	t := plus(times(r, k), s)
	return complex(over(plus(times(p, k), q), t), over(minus(times(q, k), p), t))
}

func scale(a complex128, by float64) complex128 {
	return complex(times(real(a), by), times(imag(a), by))
}

// wholePower has each power that comes up here as the products that its binary digits tell.
func wholePower(a complex128, n int) complex128 {
	switch n {
	case 0:
		return 1
	case 1:
		return a
	}
	x := wholePower(a, n/2)
	x = mul(x, x)
	if n%2 == 1 {
		x = mul(x, a)
	}
	return x
}

// The functions below are the chapter's table and P15.2; what is not finite stands for no value.

func noValue() complex128 { return complex(none, none) }

func isWholePower(p float64) bool { return p == 1 || p == 2 || p == 3 || p == 4 }

func streamSteps(x api.Element, z complex128) [3]complex128 {
	return [3]complex128{mul(x.Strength, z), x.Strength, 0}
}

func sourceSteps(x api.Element, z complex128) [3]complex128 {
	d := sub(z, x.At)
	if d == 0 {
		return [3]complex128{noValue(), noValue(), noValue()}
	}
	c := scale(x.Strength, over(1, times(2, half)))
	turned := complex(-real(c), -imag(c))
	return [3]complex128{mul(c, power.Log(d)), div(c, d), div(turned, wholePower(d, 2))}
}

func doubletSteps(x api.Element, z complex128) [3]complex128 {
	d := sub(z, x.At)
	if d == 0 {
		return [3]complex128{noValue(), noValue(), noValue()}
	}
	n := int(x.Power)
	return [3]complex128{
		div(x.Strength, wholePower(d, n)),
		div(scale(x.Strength, float64(-n)), wholePower(d, n+1)),
		div(scale(x.Strength, float64(n*(n+1))), wholePower(d, n+2)),
	}
}

func cornerSteps(x api.Element, z complex128) [3]complex128 {
	d, p := sub(z, x.At), x.Power
	once, twice := scale(x.Strength, p), scale(x.Strength, times(p, minus(p, 1)))
	switch {
	case p == 1:
		return [3]complex128{mul(x.Strength, d), mul(once, 1), 0}
	case isWholePower(p):
		n := int(p)
		return [3]complex128{mul(x.Strength, wholePower(d, n)), mul(once, wholePower(d, n-1)), mul(twice, wholePower(d, n-2))}
	case d != 0:
		return [3]complex128{mul(x.Strength, power.Real(d, p)), mul(once, power.Real(d, minus(p, 1))), mul(twice, power.Real(d, minus(p, 2)))}
	case p < 1:
		return [3]complex128{0, noValue(), noValue()}
	case p < 2:
		return [3]complex128{0, 0, noValue()}
	}
	return [3]complex128{}
}

func steps(x api.Element, z complex128) [3]complex128 {
	switch x.Kind {
	case api.Stream:
		return streamSteps(x, z)
	case api.Source:
		return sourceSteps(x, z)
	case api.Doublet:
		return doubletSteps(x, z)
	}
	return cornerSteps(x, z)
}

func wantSteps(t *testing.T, x api.Element, z complex128) {
	t.Helper()
	for i, ought := range steps(x, z) {
		wantValue(t, calls()[i], x, z, ought)
	}
}

func TestP15_1BySteps(t *testing.T) {
	d := newDice()
	gone, finite := 0, 0
	for range 200000 {
		x := d.element()
		z := d.about(x)
		wantSteps(t, x, z)
		for _, v := range steps(x, z) {
			if isFinite(v) {
				finite++
			} else {
				gone++
			}
		}
	}
	if gone < 20000 || finite < 200000 {
		t.Errorf("only %d without a value, %d with one", gone, finite)
	}
}

// All elements at few places: noughts with signs, the farthest ones and the nearest.
func TestP15_1StepsAtEdges(t *testing.T) {
	few := []float64{0, minusNought, 1, -3, farthest, -farthest, least, -0x1p-300}
	var l []complex128
	for _, x := range few {
		for _, y := range few {
			l = append(l, complex(x, y))
		}
	}
	for _, at := range l {
		for _, s := range []complex128{2 - 1i, complex(0, minusNought), complex(-farthest, farthest), complex(0, -least)} {
			for _, x := range alike(at, s) {
				for _, z := range l {
					wantSteps(t, x, z)
				}
			}
		}
	}
}

// A power that is whole goes by products, so these answers are whole; by logarithms they are near ones.
func TestP15_1WholePowers(t *testing.T) {
	z := 3 - 2i
	for _, c := range []struct {
		x                       api.Element
		potential, speed, slope complex128
	}{
		{corner(1-1i, 5+1i, 1), 11 - 3i, 5 + 1i, 0},
		{corner(1-1i, 5+1i, 2), 19 - 17i, 22 - 6i, 10 + 2i},
		{corner(1-1i, 5+1i, 3), 21 - 53i, 57 - 51i, 66 - 18i},
		{corner(1-1i, 5+1i, 4), -11 - 127i, 84 - 212i, 228 - 204i},
		{doublet(2-1i, 8, 1), 4 + 4i, -4i, -4 + 4i},
		{doublet(2-1i, 16, 2), 8i, 8 - 8i, -24},
		{doublet(2-1i, 16, 3), -4 + 4i, 12, -24 - 24i},
		{doublet(2-1i, 16, 4), -4, 8 + 8i, -40i},
		{source(1-1i, complex(2*half, 0)), 0, (2 + 1i) / 5, (-3 - 4i) / 25},
	} {
		for i, ought := range []complex128{c.potential, c.speed, c.slope} {
			if c.x.Kind == api.Source && i == 0 {
				continue
			}
			got, e := calls()[i].does(c.x, z)
			if e != api.OK || !like(got, ought) {
				t.Errorf("%s of %v at %v: %v, %d, not %v", calls()[i].name, c.x, z, got, int(e), ought)
			}
		}
	}
}

// A power that is broken, be it by one unit only, goes by logarithms: so does the speed of one just above 2, whose own power is nearly 1.
func TestP15_1BrokenPowers(t *testing.T) {
	z, s := 3-2i, 5+1i
	for _, p := range brokenPowers() {
		x := corner(1-1i, s, p)
		d := sub(z, x.At)
		for i, ought := range []complex128{
			mul(s, power.Real(d, p)),
			mul(scale(s, p), power.Real(d, minus(p, 1))),
			mul(scale(s, times(p, minus(p, 1))), power.Real(d, minus(p, 2))),
		} {
			wantCall(t, calls()[i], x, z, ought, api.OK)
		}
	}
}

// Of the power 1 the slope is nought without a minus, whatever the strength and the place, and where d is nought, too.
func TestP15_1SlopeOfThePowerOne(t *testing.T) {
	d := newDice()
	for range 2000 {
		x := corner(d.number(), d.number(), 1)
		wantCall(t, calls()[2], x, d.about(x), 0, api.OK)
		wantCall(t, calls()[2], x, x.At, 0, api.OK)
	}
}

// A Stream is asked at the place as it is, whatever noughts stand in its At.
func TestP15_1Stream(t *testing.T) {
	for _, at := range noughts {
		for _, p := range []float64{0, minusNought} {
			x := api.Element{Kind: api.Stream, At: at, Strength: complex(2, minusNought), Power: p}
			for _, z := range append([]complex128{1 + 1i, complex(-farthest, farthest)}, noughts...) {
				wantCall(t, calls()[0], x, z, mul(x.Strength, z), api.OK)
				wantCall(t, calls()[1], x, z, x.Strength, api.OK)
				wantCall(t, calls()[2], x, z, 0, api.OK)
			}
		}
	}
}
