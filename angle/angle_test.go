package angle_test

import (
	"math"
	"testing"

	"eddy/angle"
)

const (
	least    = 0x1p-1074
	greatest = math.MaxFloat64
	bend     = 0.4140625
	farthest = 0x1p20
)

var (
	minusNought = math.Copysign(0, -1)
	infinite    = math.Inf(1)
	none        = math.NaN()
)

// The chapter's floats.
var (
	high   = math.Float64frombits(0x400921fb54442d18)
	low    = math.Float64frombits(0x3ca1a62633145c07)
	per    = math.Float64frombits(0x3fe45f306dc9c883)
	first  = math.Float64frombits(0x3ff921fb54400000)
	second = math.Float64frombits(0x3dd0b4611a600000)
	third  = math.Float64frombits(0x3ba3198a2e000000)
	round  = math.Float64frombits(0x3fc45f306dc9c883)
)

// nones are bit rows of no number: quiet and signalling ones, of either sign.
func nones() []float64 {
	var l []float64
	for _, bits := range []uint64{0x7ff8000000000000, 0x7ff8000000000001, 0x7ff0000000000001, 0x7fffffffffffffff} {
		l = append(l, math.Float64frombits(bits), math.Float64frombits(bits|1<<63))
	}
	return l
}

func up(x float64) float64   { return math.Nextafter(x, infinite) }
func down(x float64) float64 { return math.Nextafter(x, -infinite) }

// about is x with its neighbours, three on either side, with either sign.
func about(x float64) []float64 {
	l := []float64{x, -x}
	below, above := x, x
	for range 3 {
		below, above = down(below), up(above)
		l = append(l, below, -below, above, -above)
	}
	return l
}

// edges are the places at which a function's steps change, and the ends of the floats.
func edges() []float64 {
	var l []float64
	for _, x := range []float64{0, 1, 2, 0.5, 0.75, bend, 1 / bend, high / 8, high / 4, high / 2, high, 2 * high, 4 * high, farthest, 2 * farthest, 1e10, 1e300, least, 0x1p-1022, 0x1p-600, 0x1p-54, 0x1p-27, greatest} {
		l = append(l, about(x)...)
	}
	return append(l, infinite, -infinite)
}

// quarterTurns are floats about the odd multiples of a quarter of H, near nought and far from it.
func quarterTurns() []float64 {
	var l []float64
	for k := 1; k <= 1335086; k += 2 + k/2000*14 {
		l = append(l, about(float64(k)*high/4)...)
	}
	return l
}

// halfTurns are floats about the odd multiples of H.
func halfTurns() []float64 {
	var l []float64
	for k := 1; k <= 333772; k += 2 + k/1000*12 {
		l = append(l, about(float64(k)*high)...)
	}
	return l
}

// dice tells words, the same ones at each run.
type dice uint64

func newDice() *dice {
	d := dice(0x9e3779b97f4a7c15)
	return &d
}

func (d *dice) word() uint64 {
	x := *d
	x ^= x << 13
	x ^= x >> 7
	x ^= x << 17
	*d = x
	return uint64(x)
}

// between is a float from low to high.
func (d *dice) between(low, high float64) float64 {
	return low + (high-low)*float64(d.word()>>11)*0x1p-53
}

// any is a float of any kind: ordinary, far out, small, any bits at all.
func (d *dice) any() float64 {
	switch d.word() % 5 {
	case 0:
		return d.between(-1, 1)
	case 1:
		return d.between(-10, 10)
	case 2:
		return d.between(-farthest, farthest)
	case 3:
		return math.Ldexp(d.between(-1, 1), -int(d.word()%1100))
	}
	return math.Float64frombits(d.word())
}

// many are all edges, then rounds of floats.
func many(rounds int) []float64 {
	l := append(append(edges(), quarterTurns()...), halfTurns()...)
	d := newDice()
	for range rounds {
		l = append(l, d.any())
	}
	return append(l, nones()...)
}

type place struct{ y, x float64 }

// places are all pairs of edges, then rounds of pairs of floats.
func places(rounds int) []place {
	var l []place
	ends := append(edges(), none)
	for _, y := range ends {
		for _, x := range ends {
			l = append(l, place{y, x})
		}
	}
	d := newDice()
	for range rounds {
		y, x := d.any(), d.any()
		l = append(l, place{y, x}, place{y, y * d.between(-4, 4)}, place{x * d.between(-1, 1), x})
	}
	return l
}

func isFit(x float64) bool { return math.Abs(x) <= farthest }

func same(a, b float64) bool {
	return math.IsNaN(a) && math.IsNaN(b) || math.Float64bits(a) == math.Float64bits(b)
}

func want(t *testing.T, what string, x, got, want float64) {
	t.Helper()
	if !same(got, want) {
		t.Errorf("%s of %x: %x, not %x", what, x, got, want)
	}
}

func wantOf(t *testing.T, y, x, want float64) {
	t.Helper()
	if got := angle.Of(y, x); !same(got, want) {
		t.Errorf("Of(%x, %x): %x, not %x", y, x, got, want)
	}
}

// The operations as calls that are not inlined: none of them can be fused with another one.

//go:noinline
func plus(x, y float64) float64 { return x + y }

//go:noinline
func minus(x, y float64) float64 { return x - y }

//go:noinline
func times(x, y float64) float64 { return x * y }

//go:noinline
func over(x, y float64) float64 { return x / y }

// sineSteps and the functions below are the chapter's words, one operation a call.
func sineSteps(y float64) float64 {
	z, s := times(y, y), 1.0
	for k := 9; k >= 1; k-- {
		s = minus(1, times(over(z, float64(2*k*(2*k+1))), s))
	}
	return times(y, s)
}

func cosineSteps(y float64) float64 {
	z, c := times(y, y), 1.0
	for k := 9; k >= 1; k-- {
		c = minus(1, times(over(z, float64((2*k-1)*(2*k))), c))
	}
	return c
}

func angleSteps(t float64) float64 {
	u := t
	if t > bend {
		u = over(minus(t, 1), plus(t, 1))
	}
	z, s := times(u, u), 0.0
	for k := 24; k >= 0; k-- {
		s = minus(over(1, float64(2*k+1)), times(z, s))
	}
	v := times(u, s)
	if t > bend {
		return plus(over(high, 4), plus(v, over(low, 4)))
	}
	return v
}

func stepsOfQuarter(x float64) (float64, int) {
	if !isFit(x) {
		return none, 0
	}
	m := math.RoundToEven(times(x, per))
	if m == 0 {
		return x, 0
	}
	return minus(minus(minus(x, times(m, first)), times(m, second)), times(m, third)), ((int(m) % 4) + 4) % 4
}

func stepsOfTurn(x float64) (float64, float64) {
	if !isFit(x) {
		return none, none
	}
	y, n := stepsOfQuarter(x)
	s, c := sineSteps(y), cosineSteps(y)
	switch n {
	case 0:
		return s, c
	case 1:
		return c, -s
	case 2:
		return -s, -c
	}
	return -c, s
}

func stepsOfOf(y, x float64) float64 {
	if math.IsNaN(y) || math.IsNaN(x) {
		return none
	}
	p, q := math.Abs(y), math.Abs(x)
	var b float64
	switch {
	case p == 0:
		b = 0
	case p > greatest && q > greatest:
		b = over(high, 4)
	case p <= q:
		b = angleSteps(over(p, q))
	default:
		b = minus(over(high, 2), minus(angleSteps(over(q, p)), over(low, 2)))
	}
	if math.Signbit(x) {
		b = minus(high, minus(b, low))
	}
	if math.Signbit(y) {
		return -b
	}
	return b
}

func stepsOfWrap(x float64) float64 {
	if !isFit(x) {
		return none
	}
	if x > -high && x <= high {
		return x
	}
	m := math.RoundToEven(times(x, round))
	y := minus(minus(minus(x, times(m, times(4, first))), times(m, times(4, second))), times(m, times(4, third)))
	switch {
	case y > high:
		y = minus(minus(y, times(2, high)), times(2, low))
	case !(y > -high):
		y = plus(plus(y, times(2, high)), times(2, low))
	}
	if y > high || !(y > -high) {
		return high
	}
	return y
}

func TestP5_1Pi(t *testing.T) {
	a, b := angle.Pi()
	want(t, "the first of Pi", 0, a, high)
	want(t, "the second of Pi", 0, b, low)
}

func checkQuarter(t *testing.T, x, rest float64, n int) {
	t.Helper()
	if gotRest, gotN := angle.Quarter(x); !same(gotRest, rest) || gotN != n {
		t.Errorf("Quarter of %x: %x and %d, not %x and %d", x, gotRest, gotN, rest, n)
	}
}

func TestP5_2Quarter(t *testing.T) {
	for _, x := range many(60000) {
		rest, n := stepsOfQuarter(x)
		checkQuarter(t, x, rest, n)
	}
}

func TestP5_2QuarterOfWhatIsNotFit(t *testing.T) {
	for _, x := range append(nones(), infinite, -infinite, up(farthest), -up(farthest), farthest+1, 1e300, greatest, -greatest) {
		checkQuarter(t, x, none, 0)
	}
	for _, x := range []float64{farthest, -farthest, down(farthest), -down(farthest)} {
		if rest, _ := angle.Quarter(x); !(math.Abs(rest) < 0.786) {
			t.Errorf("Quarter of %x: %x", x, rest)
		}
	}
}

// lastOf is the greatest float whose n is what that of x is: x lies below it, next to it.
func lastOf(x float64) float64 {
	_, n := angle.Quarter(x)
	for {
		next := up(x)
		if _, m := angle.Quarter(next); m != n {
			return x
		}
		x = next
	}
}

func TestP5_2QuarterWhereItTurns(t *testing.T) {
	for k := 1; k < 40; k += 2 {
		at := float64(k) * high / 4
		last := lastOf(at - 1e-13)
		if math.Abs(last-at) > 1e-13 {
			t.Errorf("n turns at %x, not next to %x", last, at)
		}
		before, after := (k-1)/2%4, (k+1)/2%4
		for _, c := range []struct {
			x    float64
			n    int
			sign float64
		}{{last, before, 1}, {up(last), after, -1}, {-last, (4 - before) % 4, -1}, {-up(last), (4 - after) % 4, 1}} {
			rest, n := angle.Quarter(c.x)
			if n != c.n || !(rest*c.sign > 0.785) {
				t.Errorf("Quarter of %x: %x and %d, not %d", c.x, rest, n, c.n)
			}
		}
	}
}

func TestP5_2QuarterKeepsSmallOnes(t *testing.T) {
	for _, x := range []float64{0, minusNought, least, -least, 0x1p-1022, 0.1, -0.1, 0.5, 0.75, -0.78, down(high / 4)} {
		checkQuarter(t, x, x, 0)
	}
}

func checkTurn(t *testing.T, x, sin, cos float64) {
	t.Helper()
	if s, c := angle.Turn(x); !same(s, sin) || !same(c, cos) {
		t.Errorf("Turn of %x: %x and %x, not %x and %x", x, s, c, sin, cos)
	}
}

func TestP5_3Turn(t *testing.T) {
	for _, x := range many(60000) {
		sin, cos := stepsOfTurn(x)
		checkTurn(t, x, sin, cos)
	}
}

func TestP5_3TurnOfWhatIsNotFit(t *testing.T) {
	for _, x := range append(nones(), infinite, -infinite, up(farthest), -up(farthest), farthest+1, 1e300, greatest, -greatest) {
		checkTurn(t, x, none, none)
	}
	for _, x := range []float64{farthest, -farthest, down(farthest), -down(farthest)} {
		if s, c := angle.Turn(x); !(math.Abs(s*s+c*c-1) < 1e-15) {
			t.Errorf("Turn of %x: %x and %x", x, s, c)
		}
	}
}

func TestP5_3TurnOfNoughts(t *testing.T) {
	checkTurn(t, 0, 0, 1)
	checkTurn(t, minusNought, minusNought, 1)
	checkTurn(t, least, least, 1)
	checkTurn(t, -least, -least, 1)
}

// TestP5_3TurnByQuarters has a rest that is the same in all four quarters but for a little.
func TestP5_3TurnByQuarters(t *testing.T) {
	s, c := 0.3894183423086505, 0.9210609940028851
	for n, w := range []struct{ sin, cos float64 }{{s, c}, {c, -s}, {-s, -c}, {-c, s}} {
		for _, circles := range []float64{0, 1, 7, -1, -5} {
			sin, cos := angle.Turn(0.4 + float64(n)*high/2 + circles*2*high)
			if math.Abs(sin-w.sin) > 1e-13 || math.Abs(cos-w.cos) > 1e-13 {
				t.Errorf("Turn in quarter %d: %v and %v", n, sin, cos)
			}
		}
	}
}

func TestP5_4Of(t *testing.T) {
	for _, p := range places(60000) {
		wantOf(t, p.y, p.x, stepsOfOf(p.y, p.x))
	}
}

func TestP5_4OfNoNumber(t *testing.T) {
	for _, no := range nones() {
		for _, x := range append(edges(), none, -none) {
			wantOf(t, no, x, none)
			wantOf(t, x, no, none)
		}
	}
}

// On the left side next to the middle, H - (b - L) comes to the float above H / 2.
func TestP5_4OfNoughtsAndInfiniteOnes(t *testing.T) {
	for _, c := range []struct{ y, x, want float64 }{
		{0, 0, 0}, {0, minusNought, high}, {0, 1, 0}, {0, -1, high}, {0, least, 0}, {0, -least, high}, {0, infinite, 0}, {0, -infinite, high},
		{1, 0, high / 2}, {1, minusNought, up(high / 2)}, {least, 0, high / 2}, {least, minusNought, up(high / 2)}, {greatest, 0, high / 2},
		{1, infinite, 0}, {1, -infinite, high}, {greatest, infinite, 0}, {greatest, -infinite, high}, {least, infinite, 0},
		{infinite, 0, high / 2}, {infinite, minusNought, up(high / 2)}, {infinite, 1, high / 2}, {infinite, -1, up(high / 2)}, {infinite, greatest, high / 2}, {infinite, -greatest, up(high / 2)},
		{infinite, infinite, high / 4}, {infinite, -infinite, 2.356194490192345},
		{1, 1, high / 4}, {1, -1, 2.356194490192345}, {least, least, high / 4}, {greatest, -greatest, 2.356194490192345}, {3e-320, 3e-320, high / 4},
		// Where the quotient is among the smallest floats, or nought.
		{least, 1, least}, {least, 2, 0}, {least, up(1), least}, {3 * least, 2, 2 * least}, {0x1p-1022, 8, 0x1p-1025}, {least, greatest, 0}, {least, -2, high}, {greatest, least, high / 2}, {2, -least, up(high / 2)},
	} {
		wantOf(t, c.y, c.x, c.want)
		wantOf(t, -c.y, c.x, -c.want)
	}
}

// TestP5_4OfAtTheBend has the tangents at which the steps change, up and to the right, in all four quarters.
func TestP5_4OfAtTheBend(t *testing.T) {
	for _, tangent := range []float64{bend, up(bend), down(bend), 1, down(1)} {
		b := angleSteps(tangent)
		steep := minus(over(high, 2), minus(b, over(low, 2)))
		if tangent == 1 {
			steep = b
		}
		for _, c := range []struct{ y, x, b float64 }{{tangent, 1, b}, {1, tangent, steep}} {
			wantOf(t, c.y, c.x, c.b)
			wantOf(t, -c.y, c.x, -c.b)
			wantOf(t, c.y, -c.x, minus(high, minus(c.b, low)))
			wantOf(t, -c.y, -c.x, -minus(high, minus(c.b, low)))
		}
	}
}

func TestP5_5Tan(t *testing.T) {
	for _, x := range many(60000) {
		want(t, "Tan", x, angle.Tan(x), stepsOfOf(x, 1))
	}
}

func TestP5_5TanAtEdges(t *testing.T) {
	for _, c := range []struct{ x, want float64 }{
		{0, 0}, {minusNought, minusNought}, {infinite, high / 2}, {-infinite, -high / 2}, {none, none},
		{1, high / 4}, {-1, -high / 4}, {greatest, high / 2}, {-greatest, -high / 2}, {least, least}, {-least, -least},
		{bend, angleSteps(bend)}, {-bend, -angleSteps(bend)}, {up(bend), angleSteps(up(bend))}, {-up(bend), -angleSteps(up(bend))},
		{down(bend), angleSteps(down(bend))}, {down(1), angleSteps(down(1))},
		{up(1), minus(over(high, 2), minus(angleSteps(over(1, up(1))), over(low, 2)))},
	} {
		want(t, "Tan", c.x, angle.Tan(c.x), c.want)
	}
}

func TestP5_6Wrap(t *testing.T) {
	for _, x := range many(60000) {
		want(t, "Wrap", x, angle.Wrap(x), stepsOfWrap(x))
	}
}

func TestP5_6WrapAtEdges(t *testing.T) {
	for _, x := range append(nones(), infinite, -infinite, up(farthest), -up(farthest), farthest+1, 1e300, greatest, -greatest) {
		want(t, "Wrap", x, angle.Wrap(x), none)
	}
	for _, x := range []float64{0, minusNought, least, -least, 1, -1, 3, -3, high, down(high), -down(high)} {
		want(t, "Wrap", x, angle.Wrap(x), x)
	}
	for _, x := range []float64{-high, up(high), -up(high)} {
		want(t, "Wrap", x, angle.Wrap(x), high)
	}
	for _, x := range []float64{farthest, -farthest, down(farthest), -down(farthest)} {
		if y := angle.Wrap(x); !(math.Abs(y) < 1) {
			t.Errorf("Wrap of %x: %x", x, y)
		}
	}
}

// TestP5_6WrapIsWithin holds what Wrap tells against its own bounds: so Wrap of it is the same once more.
func TestP5_6WrapIsWithin(t *testing.T) {
	for _, x := range many(60000) {
		if y := angle.Wrap(x); isFit(x) {
			if !(y > -high && y <= high) {
				t.Errorf("Wrap of %x: %x", x, y)
			}
			want(t, "Wrap once more", x, angle.Wrap(y), y)
		}
	}
}

func TestP5_8Sides(t *testing.T) {
	wantOf(t, 0, -1, high)
	wantOf(t, minusNought, -1, -high)
	wantOf(t, 0, minusNought, high)
	wantOf(t, minusNought, minusNought, -high)
	wantOf(t, 0, 0, 0)
	wantOf(t, minusNought, 0, minusNought)
}

func TestP5_9TurnAndQuarter(t *testing.T) {
	for _, x := range many(30000) {
		if !isFit(x) {
			continue
		}
		sin, cos := angle.Turn(x)
		checkTurn(t, -x, -sin, cos)
		rest, n := angle.Quarter(x)
		checkQuarter(t, -x, -rest, (4-n)%4)
	}
}

func TestP5_9OfAndTan(t *testing.T) {
	for _, p := range places(30000) {
		if b := angle.Of(p.y, p.x); !math.IsNaN(b) {
			wantOf(t, -p.y, p.x, -b)
		}
	}
	for _, x := range many(30000) {
		if !math.IsNaN(x) {
			want(t, "Tan of -x", x, angle.Tan(-x), -angle.Tan(x))
		}
	}
}

func TestExamples(t *testing.T) {
	for _, c := range []struct{ x, sin, cos float64 }{
		{1, 0.8414709848078965, 0.5403023058681398}, {100, -0.5063656411097588, 0.862318872287684}, {0, 0, 1}, {minusNought, minusNought, 1},
		{high, 1.2246467991473515e-16, -1}, {farthest + 1, none, none}, {infinite, none, none},
	} {
		checkTurn(t, c.x, c.sin, c.cos)
	}
	checkQuarter(t, 2, 0.4292036732051034, 1)
	checkQuarter(t, -2, -0.4292036732051034, 3)
	checkQuarter(t, 0.5, 0.5, 0)
	checkQuarter(t, minusNought, minusNought, 0)
	for _, c := range []struct{ x, want float64 }{{1, 0.7853981633974483}, {0.1, 0.09966865249116202}, {-infinite, -1.5707963267948966}, {none, none}} {
		want(t, "Tan", c.x, angle.Tan(c.x), c.want)
	}
	for _, c := range []struct{ y, x, want float64 }{
		{0, -1, 3.141592653589793}, {minusNought, -1, -3.141592653589793}, {0, 0, 0}, {minusNought, 0, minusNought}, {0, minusNought, 3.141592653589793}, {1, 0, 1.5707963267948966},
		{1, -1, 2.356194490192345}, {infinite, -infinite, 2.356194490192345}, {1, 2, 0.46364760900080615}, {1, infinite, 0},
	} {
		wantOf(t, c.y, c.x, c.want)
	}
	for _, c := range []struct{ x, want float64 }{{3, 3}, {4, -2.2831853071795867}, {-high, 3.141592653589793}, {high, 3.141592653589793}, {100, -0.5309649148733836}} {
		want(t, "Wrap", c.x, angle.Wrap(c.x), c.want)
	}
}
