package roots_test

import (
	"math"
	"testing"

	"eddy/angle"
	"eddy/parts"
	"eddy/roots"
)

const (
	least    = 0x1p-1074
	greatest = math.MaxFloat64
)

var (
	minusNought = math.Copysign(0, -1)
	infinite    = math.Inf(1)
	none        = math.NaN()
)

// nones are bit rows of no number: quiet and signalling ones, of either sign.
func nones() []float64 {
	var l []float64
	for _, bits := range []uint64{0x7ff8000000000000, 0x7ff8000000000001, 0x7ff0000000000001, 0x7fffffffffffffff} {
		l = append(l, math.Float64frombits(bits), math.Float64frombits(bits|1<<63))
	}
	return l
}

// numbers are finite floats of either sign: noughts, small whole ones, the ends of the floats, orders odd and even on either side of nought.
func numbers() []float64 {
	var l []float64
	for _, x := range []float64{0, 1, 2, 3, 4, 0.5, 0.25, 0.75, 0.1, 1.5, 5, 7, 1e10, 1e-10, 0x1p27 + 1, 0x1p53 - 1, math.Pi, math.Sqrt2,
		least, 2 * least, 3 * least, 5 * least, 7 * least, 0x1p-1050, 0x1.8p-1060, 0x1p-1022, 0x1p-1021, 0x1.fffffffffffffp-1022, 0x0.fffffffffffffp-1022,
		0x1p-538, 0x1p-537, 0x1p-511, 0x1p-512, 0x1p-400, 0x1p-399, 0x1p400, 0x1p399, 0x1p511, 0x1p512, 1e200, 1e-200, 1e300, 1e-300,
		0x1p1022, 0x1p1023, 0x1.6a09e667f3bcdp1023, greatest, math.Nextafter(greatest, 0), greatest / 2, greatest / 4} {
		l = append(l, x, -x)
	}
	return l
}

// all are numbers with the infinite ones and no number.
func all() []float64 { return append(numbers(), infinite, -infinite, none, -none) }

// pairs are all complex numbers with both parts out of a list.
func pairs(l []float64) []complex128 {
	var m []complex128
	for _, x := range l {
		for _, y := range l {
			m = append(m, complex(x, y))
		}
	}
	return m
}

// dice tells words, the same ones at each run.
type dice uint64

func newDice() *dice {
	d := dice(0x9e3779b97f4a7c15)
	return &d
}

func (d *dice) word() uint64 {
	x := *d
	x ^= x << 13
	x ^= x >> 7
	x ^= x << 17
	*d = x
	return uint64(x)
}

// part is a float from 1 to below 2 in worth, times a power of two of at most reach, of either sign.
func (d *dice) part(reach int) float64 {
	power := int(d.word()%uint64(2*reach+1)) - reach
	x := math.Ldexp(1+float64(d.word()>>12)*0x1p-52, power)
	if d.word()&1 == 1 {
		return -x
	}
	return x
}

// number has parts of any powers within reach, or of powers near to each other, or a nought as a part.
func (d *dice) number(reach int) complex128 {
	x := d.part(reach)
	switch d.word() % 8 {
	case 0:
		return complex(x, d.part(reach))
	case 1:
		return complex(math.Copysign(0, d.part(1)), x)
	case 2:
		return complex(x, math.Copysign(0, d.part(1)))
	case 3:
		return complex(x, x)
	case 4:
		return complex(x*math.Ldexp(d.part(1), -20), x)
	}
	return complex(x, x*d.part(2)/4)
}

// wild has any bits in its parts.
func (d *dice) wild() complex128 {
	return complex(math.Float64frombits(d.word()), math.Float64frombits(d.word()))
}

// small has parts among the smallest floats.
func (d *dice) small() complex128 {
	x, y := float64(d.word()%4096)*least, float64(d.word()%4096)*least
	return complex(math.Copysign(x, d.part(1)), math.Copysign(y, d.part(1)))
}

// many are all pairs of edges, then rounds of numbers of each kind.
func many(rounds int) []complex128 {
	l := pairs(all())
	d := newDice()
	for range rounds {
		l = append(l, d.number(4), d.number(500), d.number(1020), d.wild(), d.small())
	}
	return l
}

func sameFloats(a, b float64) bool {
	return math.IsNaN(a) && math.IsNaN(b) || math.Float64bits(a) == math.Float64bits(b)
}

func same(a, b complex128) bool {
	return sameFloats(real(a), real(b)) && sameFloats(imag(a), imag(b))
}

func isFinite(a complex128) bool {
	return math.Abs(real(a)) <= greatest && math.Abs(imag(a)) <= greatest
}

func isNought(a complex128) bool { return real(a) == 0 && imag(a) == 0 }

func wantLength(t *testing.T, a complex128, want float64) {
	t.Helper()
	if got := roots.Length(a); !sameFloats(got, want) {
		t.Errorf("Length(%x): %x, not %x", a, got, want)
	}
}

func wantRoot(t *testing.T, a, want complex128) {
	t.Helper()
	if got := roots.Root(a); !same(got, want) {
		t.Errorf("Root(%x): %x, not %x", a, got, want)
	}
}

func wantUnit(t *testing.T, a, want complex128, is bool) {
	t.Helper()
	if got, told := roots.Unit(a); !same(got, want) || told != is {
		t.Errorf("Unit(%x): %x, %v, not %x, %v", a, got, told, want, is)
	}
}

// The operations as calls that are not inlined: none of them can be fused with another one.

//go:noinline
func plus(x, y float64) float64 { return x + y }

//go:noinline
func times(x, y float64) float64 { return x * y }

//go:noinline
func over(x, y float64) float64 { return x / y }

//go:noinline
func rootOf(x float64) float64 { return math.Sqrt(x) }

// The functions below are the chapter's words, one operation a call.

func squareSteps(a complex128) float64 {
	return plus(times(real(a), real(a)), times(imag(a), imag(a)))
}

// orderSteps is the order of what is finite and not nought.
func orderSteps(a complex128) int {
	greater := math.Abs(real(a))
	if math.Abs(imag(a)) > greater {
		greater = math.Abs(imag(a))
	}
	_, k := math.Frexp(greater)
	return k
}

func lengthSteps(a complex128) float64 {
	x, y := math.Abs(real(a)), math.Abs(imag(a))
	switch {
	case x > greatest || y > greatest:
		return infinite
	case x != x || y != y:
		return none
	case x == 0 && y == 0:
		return 0
	}
	k := orderSteps(a)
	u, v := math.Ldexp(max(x, y), -k), math.Ldexp(min(x, y), -k)
	return math.Ldexp(rootOf(plus(times(u, u), times(v, v))), k)
}

// rootSteps is the root of what is finite and not nought.
func rootSteps(a complex128) complex128 {
	x, y := real(a), imag(a)
	k := int(math.Floor(float64(orderSteps(a)) / 2))
	u, v := math.Ldexp(math.Abs(x), -2*k), math.Ldexp(math.Abs(y), -2*k)
	l := rootOf(plus(times(u, u), times(v, v)))
	t := rootOf(over(plus(u, l), 2))
	s := math.Ldexp(t, k)
	if x < 0 {
		return complex(over(math.Abs(y), times(2, s)), math.Copysign(s, y))
	}
	return complex(s, over(y, times(2, s)))
}

func unitSteps(a complex128) (complex128, bool) {
	if !isFinite(a) || isNought(a) {
		return 0, false
	}
	k := orderSteps(a)
	u, v := math.Ldexp(real(a), -k), math.Ldexp(imag(a), -k)
	l := rootOf(plus(times(u, u), times(v, v)))
	return complex(over(u, l), over(v, l)), true
}

func TestExamples(t *testing.T) {
	wantLength(t, 3+4i, 5)
	wantLength(t, 0, 0)
	wantLength(t, complex(infinite, none), infinite)
	wantLength(t, complex(0x1p1023, 0x1p1023), 0x1.6a09e667f3bcdp1023)
	wantLength(t, complex(greatest, greatest), infinite)
	wantLength(t, complex(0, least), least)
	wantRoot(t, 3+4i, 2+1i)
	wantRoot(t, complex(-4, 0), 2i)
	wantRoot(t, complex(-4, minusNought), complex(0, -2))
	wantRoot(t, 2, 1.4142135623730951)
	wantRoot(t, 2i, 1+1i)
	wantRoot(t, complex(0, minusNought), complex(0, minusNought))
	wantRoot(t, complex(minusNought, 0), 0)
	wantRoot(t, complex(0x1p1000, 0x1p-100), complex(0x1p500, 0x1p-601))
	wantRoot(t, complex(-infinite, -1), complex(0, -infinite))
	wantRoot(t, complex(infinite, none), complex(infinite, none))
	wantRoot(t, complex(none, infinite), complex(infinite, infinite))
	wantRoot(t, complex(1, none), complex(none, none))
	if l, a := roots.Polar(complex(-1, minusNought)); l != 1 || a != -math.Pi {
		t.Errorf("Polar(-1 - 0i): %v, %v", l, a)
	}
	for _, row := range []struct {
		length, angle float64
		want          complex128
	}{{2, 0, 2}, {0, 5, complex(0, minusNought)}} {
		if got := roots.Place(row.length, row.angle); !same(got, row.want) {
			t.Errorf("Place(%v, %v): %v, not %v", row.length, row.angle, got, row.want)
		}
	}
	wantUnit(t, 3-4i, complex(0.6, -0.8), true)
	wantUnit(t, 0, 0, false)
	wantUnit(t, complex(infinite, 0), 0, false)
	wantUnit(t, complex(least, minusNought), complex(1, minusNought), true)
	if !roots.Near(1, 1+1i, 1) || roots.Near(complex(none, 0), 0, infinite) {
		t.Error("Near: the chapter's examples fail")
	}
}

func TestP6_1Square(t *testing.T) {
	for _, a := range many(20000) {
		if got, want := roots.Square(a), squareSteps(a); !sameFloats(got, want) {
			t.Errorf("Square(%x): %x, not %x", a, got, want)
		}
	}
	for a, want := range map[complex128]float64{1 - 2i: 5, complex(0x1p600, 1): infinite, complex(0x1p-600, 0x1p-600): 0, complex(-infinite, 0): infinite} {
		if got := roots.Square(a); got != want {
			t.Errorf("Square(%v): %v, not %v", a, got, want)
		}
	}
}

// A sum behind the call must not reach into it: what it answers is rounded.
func TestP6_1SquareIsRounded(t *testing.T) {
	d := newDice()
	for range 20000 {
		a, b := d.number(4), d.part(4)
		if got, want := roots.Square(a)-b, plus(squareSteps(a), -b); got != want {
			t.Errorf("Square(%x) less %x: %x, not %x", a, b, got, want)
		}
	}
}

func TestP6_1Length(t *testing.T) {
	for _, a := range many(40000) {
		wantLength(t, a, lengthSteps(a))
	}
}

func TestP6_1LengthAtEdges(t *testing.T) {
	ends := append(nones(), infinite, -infinite, 0, minusNought, 1, -1, greatest, least)
	for _, a := range pairs(ends) {
		x, y := real(a), imag(a)
		switch {
		case math.IsInf(x, 0) || math.IsInf(y, 0):
			wantLength(t, a, infinite)
		case math.IsNaN(x) || math.IsNaN(y):
			wantLength(t, a, none)
		}
	}
	for _, a := range pairs([]float64{0, minusNought}) {
		wantLength(t, a, 0)
	}
	for _, x := range numbers() {
		for _, zero := range []float64{0, minusNought} {
			wantLength(t, complex(x, zero), math.Abs(x))
			wantLength(t, complex(zero, x), math.Abs(x))
		}
	}
	wantLength(t, complex(3*least, -4*least), 5*least)
	wantLength(t, complex(least, least), least) // the root of 2, rounded to the least floats
	wantLength(t, complex(2*least, 2*least), 3*least)
	wantLength(t, complex(greatest, least), greatest)
	wantLength(t, complex(-0x1.8p1022, 0x1p1023), 0x1.4p1023)
}

// rootAtEdges is P6.2's list but for its last point; false: the last point applies.
func rootAtEdges(x, y float64) (complex128, bool) {
	negative := math.Signbit(y) && !math.IsNaN(y)
	nought, far := 0.0, infinite
	if negative {
		nought, far = minusNought, -infinite
	}
	switch {
	case y == infinite || y == -infinite:
		return complex(infinite, y), true
	case x == infinite && y != y:
		return complex(infinite, none), true
	case x == -infinite && y != y:
		return complex(none, infinite), true
	case x == infinite:
		return complex(infinite, nought), true
	case x == -infinite:
		return complex(0, far), true
	case x != x || y != y:
		return complex(none, none), true
	case x == 0 && y == 0:
		return complex(0, nought), true
	}
	return 0, false
}

func TestP6_2Root(t *testing.T) {
	for _, a := range many(40000) {
		want, is := rootAtEdges(real(a), imag(a))
		if !is {
			want = rootSteps(a)
		}
		wantRoot(t, a, want)
	}
}

// All pairs of no number, both infinite ones, noughts of either sign and 1 of either sign, written out.
func TestP6_2RootAtEdges(t *testing.T) {
	for _, a := range pairs(append(nones(), infinite, -infinite, 0, minusNought)) {
		want, _ := rootAtEdges(real(a), imag(a))
		wantRoot(t, a, want)
	}
	for _, row := range []struct{ a, want complex128 }{
		{complex(1, infinite), complex(infinite, infinite)},
		{complex(-1, -infinite), complex(infinite, -infinite)},
		{complex(infinite, infinite), complex(infinite, infinite)},
		{complex(-infinite, infinite), complex(infinite, infinite)},
		{complex(-infinite, -infinite), complex(infinite, -infinite)},
		{complex(none, -infinite), complex(infinite, -infinite)},
		{complex(-infinite, none), complex(none, infinite)},
		{complex(-infinite, -none), complex(none, infinite)},
		{complex(infinite, 1), complex(infinite, 0)},
		{complex(infinite, -1), complex(infinite, minusNought)},
		{complex(infinite, minusNought), complex(infinite, minusNought)},
		{complex(infinite, -greatest), complex(infinite, minusNought)},
		{complex(-infinite, 1), complex(0, infinite)},
		{complex(-infinite, 0), complex(0, infinite)},
		{complex(-infinite, minusNought), complex(0, -infinite)},
		{complex(none, 0), complex(none, none)},
		{complex(none, 1), complex(none, none)},
		{complex(0, none), complex(none, none)},
		{complex(minusNought, minusNought), complex(0, minusNought)},
		{complex(minusNought, 2), 1 + 1i},
		{complex(minusNought, -2), 1 - 1i},
		{complex(0, -2), 1 - 1i},
	} {
		wantRoot(t, row.a, row.want)
	}
}

func TestP6_2RootOnTheCut(t *testing.T) {
	for _, x := range numbers() {
		if x <= 0 {
			continue
		}
		up := roots.Root(complex(x, 0))
		if !sameFloats(imag(up), 0) || math.Abs(real(up)-math.Sqrt(x)) > 0x1p-52*math.Sqrt(x) {
			t.Errorf("Root(%x): %x", x, up)
		}
		s := real(up)
		wantRoot(t, complex(x, minusNought), complex(s, minusNought))
		wantRoot(t, complex(-x, 0), complex(0, s))
		wantRoot(t, complex(-x, minusNought), complex(0, -s))
	}
}

// Whole roots of squares come out whole, whatever the order is.
func TestP6_2RootOfSquares(t *testing.T) {
	for k := -500; k <= 500; k++ {
		scale := func(a complex128, k int) complex128 {
			return complex(math.Ldexp(real(a), k), math.Ldexp(imag(a), k))
		}
		wantRoot(t, scale(3+4i, 2*k), scale(2+1i, k))
		wantRoot(t, scale(-3-4i, 2*k), scale(1-2i, k))
		wantRoot(t, scale(8i, 2*k), scale(2+2i, k))
		wantRoot(t, scale(-5+12i, 2*k), scale(2+3i, k))
	}
	wantRoot(t, complex(greatest, greatest), rootSteps(complex(greatest, greatest)))
	wantRoot(t, complex(4*least, 0), 0x1p-536)
	wantRoot(t, complex(-least, 0), complex(0, 0x1p-537))
	wantRoot(t, complex(0, -2*least), complex(0x1p-537, -0x1p-537))
}

func TestP6_3Polar(t *testing.T) {
	for _, a := range many(20000) {
		length, turn := roots.Polar(a)
		if !sameFloats(length, lengthSteps(a)) || !sameFloats(turn, angle.Of(imag(a), real(a))) {
			t.Errorf("Polar(%x): %x, %x", a, length, turn)
		}
	}
	for _, row := range []struct {
		a             complex128
		length, angle float64
	}{
		{2, 2, 0},
		{complex(2, minusNought), 2, minusNought},
		{complex(-2, 0), 2, math.Pi},
		{3i, 3, math.Pi / 2},
		{complex(0, -3), 3, -math.Pi / 2},
		{complex(0, minusNought), 0, minusNought},
		{complex(minusNought, 0), 0, math.Pi},
		{complex(infinite, -infinite), infinite, -math.Pi / 4},
		{complex(infinite, none), infinite, none},
		{complex(none, 1), none, none},
	} {
		if length, angle := roots.Polar(row.a); !sameFloats(length, row.length) || !sameFloats(angle, row.angle) {
			t.Errorf("Polar(%v): %v, %v", row.a, length, angle)
		}
	}
}

func TestP6_3Place(t *testing.T) {
	d := newDice()
	for range 40000 {
		length, turn := d.part(30), d.part(22)
		sin, cos := angle.Turn(turn)
		if got, want := roots.Place(length, turn), complex(times(length, cos), times(length, sin)); !same(got, want) {
			t.Errorf("Place(%x, %x): %x, not %x", length, turn, got, want)
		}
	}
	ends := append(all(), 0x1p20, -0x1p20, math.Nextafter(0x1p20, infinite), 1e6, math.Pi, math.Pi/2)
	for _, p := range pairs(ends) {
		sin, cos := angle.Turn(imag(p))
		if got, want := roots.Place(real(p), imag(p)), complex(times(real(p), cos), times(real(p), sin)); !same(got, want) {
			t.Errorf("Place(%x, %x): %x, not %x", real(p), imag(p), got, want)
		}
	}
}

func TestP6_3PlaceAtEdges(t *testing.T) {
	for _, row := range []struct {
		length, angle float64
		want          complex128
	}{
		{2, minusNought, complex(2, minusNought)},
		{-2, 0, complex(-2, minusNought)},
		{-2, minusNought, complex(-2, 0)},
		{minusNought, 0, complex(minusNought, minusNought)},
		{0, minusNought, complex(0, minusNought)},
		{1, 0x1.0000000000001p20, complex(none, none)},
		{1, infinite, complex(none, none)},
		{0, -infinite, complex(none, none)},
		{1, none, complex(none, none)},
		{none, 0, complex(none, none)},
		{infinite, 0, complex(infinite, none)},
		{infinite, 1, complex(infinite, infinite)},
		{infinite, -2, complex(-infinite, -infinite)},
	} {
		if got := roots.Place(row.length, row.angle); !same(got, row.want) {
			t.Errorf("Place(%v, %v): %v, not %v", row.length, row.angle, got, row.want)
		}
	}
}

// A sum behind the call must not reach into it: its products are rounded.
func TestP6_3PlaceIsRounded(t *testing.T) {
	d := newDice()
	for range 20000 {
		length, turn, b := d.part(3), d.part(3), d.number(3)
		sin, cos := angle.Turn(turn)
		want := complex(plus(times(length, cos), real(b)), plus(times(length, sin), imag(b)))
		if got := roots.Place(length, turn) + b; !same(got, want) {
			t.Errorf("Place(%x, %x) and %x: %x, not %x", length, turn, b, got, want)
		}
	}
}

func TestP6_4Unit(t *testing.T) {
	for _, a := range many(40000) {
		want, is := unitSteps(a)
		wantUnit(t, a, want, is)
	}
}

func TestP6_4UnitAtEdges(t *testing.T) {
	wrong := append(nones(), infinite, -infinite)
	for _, x := range wrong {
		for _, y := range append(wrong, 0, minusNought, 1, -1, greatest, least) {
			wantUnit(t, complex(x, y), 0, false)
			wantUnit(t, complex(y, x), 0, false)
		}
	}
	for _, a := range pairs([]float64{0, minusNought}) {
		wantUnit(t, a, 0, false)
	}
	for _, x := range numbers() {
		if x == 0 {
			continue
		}
		for _, zero := range []float64{0, minusNought} {
			wantUnit(t, complex(x, zero), complex(math.Copysign(1, x), zero), true)
			wantUnit(t, complex(zero, x), complex(zero, math.Copysign(1, x)), true)
		}
	}
	wantUnit(t, complex(-3*least, 4*least), complex(-0.6, 0.8), true)
	wantUnit(t, complex(0x1.8p1022, -0x1p1023), complex(0.6, -0.8), true)
	wantUnit(t, complex(greatest, -least), complex(1, minusNought), true)
	wantUnit(t, complex(-least, -greatest), complex(minusNought, -1), true)
}

func TestP6_4Near(t *testing.T) {
	d := newDice()
	for range 20000 {
		a, b := d.number(6), d.number(6)
		length := lengthSteps(a - b)
		for _, most := range []float64{length, math.Nextafter(length, infinite), math.Nextafter(length, 0), d.part(6), 0} {
			if got, want := roots.Near(a, b, most), length <= most; got != want {
				t.Errorf("Near(%x, %x, %x): %v", a, b, most, got)
			}
		}
	}
}

func TestP6_4NearAtEdges(t *testing.T) {
	for _, row := range []struct {
		a, b complex128
		most float64
		want bool
	}{
		{1, 1, 0, true},
		{1, 1, minusNought, true},
		{0, complex(minusNought, minusNought), 0, true},
		{1, 1, -least, false},
		{1, 1, -infinite, false},
		{1, 1, none, false},
		{1, 1, infinite, true},
		{0, 3 + 4i, 5, true},
		{3 + 4i, 0, math.Nextafter(5, 0), false},
		{1, 1 + 1i, 1, true},
		{1, 1 + 1.5i, 1, false},
		{0, least, 0, false},
		{0, least, least, true},
		{complex(greatest, 0), complex(-greatest, 0), greatest, false},
		{complex(greatest, 0), complex(-greatest, 0), infinite, true},
		{complex(infinite, 0), 0, greatest, false},
		{complex(infinite, 0), 0, infinite, true},
		{0, complex(0, -infinite), infinite, true},
		{complex(infinite, 0), complex(-infinite, 0), infinite, true},
		{complex(infinite, 0), complex(infinite, 0), infinite, false},
		{complex(0, infinite), complex(0, infinite), infinite, false},
		{complex(none, 0), 0, infinite, false},
		{0, complex(0, none), infinite, false},
		{complex(none, none), complex(none, none), infinite, false},
		{complex(none, 0), complex(none, 0), 0, false},
		{complex(infinite, 0), 0, none, false},
	} {
		if got := roots.Near(row.a, row.b, row.most); got != row.want {
			t.Errorf("Near(%v, %v, %v): %v", row.a, row.b, row.most, got)
		}
	}
	for _, x := range nones() {
		if roots.Near(complex(x, 1), 0, infinite) || roots.Near(1, complex(1, x), infinite) || roots.Near(1, 1, x) {
			t.Errorf("Near with bits %x is told", math.Float64bits(x))
		}
	}
}

func TestP6_6LengthOfTurned(t *testing.T) {
	for _, a := range many(20000) {
		length := roots.Length(a)
		for _, b := range []complex128{parts.Conj(a), parts.Neg(a), parts.Mirror(a), parts.Times(a)} {
			wantLength(t, b, length)
		}
	}
}

func TestP6_6RootOfConj(t *testing.T) {
	for _, a := range many(20000) {
		root := roots.Root(a)
		if real(a) == real(a) && imag(a) == imag(a) {
			wantRoot(t, parts.Conj(a), parts.Conj(root))
		}
		if real(root) < 0 || sameFloats(real(root), minusNought) {
			t.Errorf("Root(%x): %x has a minus in its real part", a, root)
		}
		if y, z := imag(a), imag(root); y == y && z == z && math.Signbit(y) != math.Signbit(z) {
			t.Errorf("Root(%x): %x has another sign", a, root)
		}
	}
}

func TestP6_6LengthAmongTheParts(t *testing.T) {
	for _, a := range many(40000) {
		if real(a) != real(a) || imag(a) != imag(a) {
			continue
		}
		x, y := math.Abs(real(a)), math.Abs(imag(a))
		if l := roots.Length(a); l < max(x, y) || l > x+y {
			t.Errorf("Length(%x): %x", a, l)
		}
	}
}

// So many times as great, bit by bit, for parts that are nought or from 2^-400 to 2^400.
func TestP6_6ManyTimesAsGreat(t *testing.T) {
	l := pairs([]float64{0, minusNought, 1, 0x1p-400, -0x1p400, 0x1.fffffffffffffp399, 3, -0x1.0000000000001p-400, math.Pi})
	d := newDice()
	for range 5000 {
		l = append(l, d.number(3), complex(d.part(399), d.part(399)))
	}
	for i, a := range l {
		length, root := roots.Length(a), roots.Root(a)
		for _, k := range []int{-100, 100, 1, -1, i%201 - 100} {
			by := func(a complex128, k int) complex128 {
				return complex(math.Ldexp(real(a), k), math.Ldexp(imag(a), k))
			}
			wantLength(t, by(a, k), math.Ldexp(length, k))
			wantRoot(t, by(a, 2*k), by(root, k))
		}
	}
}
