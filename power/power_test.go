package power_test

import (
	"math"
	"testing"

	"eddy/angle"
	"eddy/elem"
	"eddy/parts"
	"eddy/power"
	"eddy/roots"
)

const (
	least    = 0x1p-1074
	greatest = math.MaxFloat64
	half     = math.Pi // the higher one of both floats that Pi is told by
)

var (
	minusNought = math.Copysign(0, -1)
	infinite    = math.Inf(1)
	none        = math.NaN()
)

// edges are what is no number, both infinite ones, noughts, and finite floats at the ends of what the basic functions take, of either sign.
func edges() []float64 {
	l := []float64{none, -none, math.Float64frombits(0x7ff0000000000001), math.Float64frombits(0xfff8000000000001)}
	for _, x := range []float64{infinite, 0, 1, 2, 3, 0.5, 0.1, 1e-10, 20, 100, 350, 708.5, 709.78, 709.79, 709.8, 745.13, 745.14, 745.2, 800,
		math.Pi, math.Pi / 2, math.Pi / 4, math.Sqrt2, least, 3 * least, 0x1p-1022, 1e-300, 1e-200, 0x1p19, 0x1p20, math.Nextafter(0x1p20, infinite), 0x1p21,
		0x1p53 - 1, 1e200, 0x1p1023, greatest} {
		l = append(l, x, -x)
	}
	return l
}

// pairs are all complex numbers with both parts out of a list.
func pairs(l []float64) []complex128 {
	var m []complex128
	for _, x := range l {
		for _, y := range l {
			m = append(m, complex(x, y))
		}
	}
	return m
}

// dice tells words, the same ones at each run.
type dice uint64

func newDice() *dice {
	d := dice(0x9e3779b97f4a7c15)
	return &d
}

func (d *dice) word() uint64 {
	x := *d
	x ^= x << 13
	x ^= x >> 7
	x ^= x << 17
	*d = x
	return uint64(x)
}

// part is a float from 1 to below 2 in worth, times a power of two of at most reach, of either sign.
func (d *dice) part(reach int) float64 {
	power := int(d.word()%uint64(2*reach+1)) - reach
	x := math.Ldexp(1+float64(d.word()>>12)*0x1p-52, power)
	if d.word()&1 == 1 {
		return -x
	}
	return x
}

// between is a float from -most to most.
func (d *dice) between(most float64) float64 {
	return (float64(d.word()>>11)*0x1p-52 - 1) * most
}

// nought is one of either sign.
func (d *dice) nought() float64 { return math.Copysign(0, d.part(0)) }

func (d *dice) number() complex128 {
	switch d.word() % 8 {
	case 0:
		return complex(d.part(1000), d.part(1000))
	case 1:
		return complex(d.nought(), d.part(9))
	case 2:
		return complex(d.part(9), d.nought())
	case 3:
		return complex(d.between(750), d.between(0x1p20))
	case 4:
		return complex(d.between(0x1p20), d.between(750))
	case 5:
		return complex(math.Float64frombits(d.word()), math.Float64frombits(d.word()))
	}
	return complex(d.part(4), d.part(4))
}

// power is an exponent as programs have them: small whole ones and halves, and others.
func (d *dice) power() float64 {
	switch d.word() % 4 {
	case 0:
		return float64(d.word()%17) - 8
	case 1:
		return (float64(d.word()%17) - 8) / 2
	case 2:
		return d.between(40)
	}
	return d.part(8)
}

// many are all pairs of edges, then so many numbers of each kind.
func many(rounds int) []complex128 {
	l := pairs(edges())
	d := newDice()
	for range rounds {
		l = append(l, d.number())
	}
	return l
}

func sameFloats(a, b float64) bool {
	return math.IsNaN(a) && math.IsNaN(b) || math.Float64bits(a) == math.Float64bits(b)
}

func same(a, b complex128) bool {
	return sameFloats(real(a), real(b)) && sameFloats(imag(a), imag(b))
}

func likeFloats(a, b float64) bool { return a == b || math.IsNaN(a) && math.IsNaN(b) }

func like(a, b complex128) bool {
	return likeFloats(real(a), real(b)) && likeFloats(imag(a), imag(b))
}

func isFinite(a complex128) bool {
	return math.Abs(real(a)) <= greatest && math.Abs(imag(a)) <= greatest
}

// want tells where a call answers otherwise than it ought to.
func want(t *testing.T, name string, a any, got, ought complex128) {
	t.Helper()
	if !same(got, ought) {
		t.Errorf("%s of %x: %x, not %x", name, a, got, ought)
	}
}

// The operations as calls that are not inlined: none of them can be fused with another one.

//go:noinline
func plus(x, y float64) float64 { return x + y }

//go:noinline
func minus(x, y float64) float64 { return x - y }

//go:noinline
func times(x, y float64) float64 { return x * y }

// The functions below are the chapter's words, one operation a call.

func expSteps(a complex128) complex128 {
	e := elem.Exp(real(a))
	if imag(a) == 0 {
		return complex(e, imag(a))
	}
	s, c := angle.Turn(imag(a))
	return complex(times(e, c), times(e, s))
}

func logSteps(a complex128) complex128 {
	return complex(elem.Log(roots.Length(a)), angle.Of(imag(a), real(a)))
}

func realSteps(a complex128, p float64) complex128 {
	if p == 0 {
		return complex(1, 0)
	}
	l := logSteps(a)
	return expSteps(complex(times(real(l), p), times(imag(l), p)))
}

func powerSteps(a, p complex128) complex128 {
	if real(p) == 0 && imag(p) == 0 {
		return complex(1, 0)
	}
	l := logSteps(a)
	x := minus(times(real(p), real(l)), times(imag(p), imag(l)))
	y := plus(times(real(p), imag(l)), times(imag(p), real(l)))
	return expSteps(complex(x, y))
}

func sinSteps(a complex128) complex128 {
	s, c := angle.Turn(real(a))
	return complex(times(s, elem.Cosh(imag(a))), times(c, elem.Sinh(imag(a))))
}

func cosSteps(a complex128) complex128 {
	s, c := angle.Turn(real(a))
	return complex(times(c, elem.Cosh(imag(a))), -times(s, elem.Sinh(imag(a))))
}

func sinhSteps(a complex128) complex128 {
	s, c := angle.Turn(imag(a))
	return complex(times(elem.Sinh(real(a)), c), times(elem.Cosh(real(a)), s))
}

func coshSteps(a complex128) complex128 {
	s, c := angle.Turn(imag(a))
	return complex(times(elem.Cosh(real(a)), c), times(elem.Sinh(real(a)), s))
}

func sheetSteps(a complex128, n int) (complex128, bool) {
	l := logSteps(a)
	if !isFinite(l) || n < -1048576 || n > 1048576 {
		return 0, false
	}
	return complex(real(l), plus(imag(l), times(float64(n), times(2, half)))), true
}

// call is a function of one number, with the chapter's words for it.
type call struct {
	name  string
	does  func(complex128) complex128
	ought func(complex128) complex128
}

func calls() []call {
	return []call{
		{"Exp", power.Exp, expSteps},
		{"Log", power.Log, logSteps},
		{"Sin", power.Sin, sinSteps},
		{"Cos", power.Cos, cosSteps},
		{"Sinh", power.Sinh, sinhSteps},
		{"Cosh", power.Cosh, coshSteps},
	}
}

// bySteps holds a call against the chapter's words.
func bySteps(t *testing.T, name string) {
	t.Helper()
	for _, c := range calls() {
		if c.name != name {
			continue
		}
		for _, a := range many(40000) {
			want(t, name, a, c.does(a), c.ought(a))
		}
		d := newDice()
		for range 20000 { // a difference behind the call must not reach into it
			a := complex(d.part(3), d.part(3))
			b := c.ought(a)
			x, y := times(real(b), 1+d.between(0x1p-50)), times(imag(b), 1+d.between(0x1p-50))
			got := c.does(a) - complex(x, y)
			want(t, name+" less a number", a, got, complex(minus(real(b), x), minus(imag(b), y)))
		}
	}
}

// row is an argument and what a call ought to answer.
type row struct{ a, ought complex128 }

func TestExamples(t *testing.T) {
	h, _ := angle.Pi()
	for _, r := range []row{
		{0, 1},
		{complex(0, minusNought), complex(1, minusNought)},
		{1, complex(elem.Exp(1), 0)},
		{800, complex(infinite, 0)},
		{complex(-infinite, 5), complex(0, minusNought)},
	} {
		want(t, "Exp", r.a, power.Exp(r.a), r.ought)
	}
	for _, r := range []row{
		{1, 0},
		{-1, complex(0, h)},
		{complex(-1, minusNought), complex(0, -h)},
		{0, complex(-infinite, 0)},
		{2i, complex(elem.Log(2), h/2)},
	} {
		want(t, "Log", r.a, power.Log(r.a), r.ought)
	}
	want(t, "Real by 0", none, power.Real(complex(none, 0), 0), 1)
	want(t, "Real by 2", 0, power.Real(0, 2), 0)
	want(t, "Power by 0", 2, power.Power(2, 0), 1)
	want(t, "Sin", 0, power.Sin(0), 0)
	want(t, "Cos", 0, power.Cos(0), complex(1, minusNought))
	want(t, "Sinh", minusNought, power.Sinh(complex(0, minusNought)), complex(0, minusNought))
	want(t, "Cosh", 0, power.Cosh(0), 1)
	wantSheet(t, 1, 1, complex(0, 2*h), true)
	wantSheet(t, 0, 1, 0, false)
	wantSheet(t, 1, 1<<20+1, 0, false)
}

func TestP7_1Exp(t *testing.T) { bySteps(t, "Exp") }
func TestP7_1Log(t *testing.T) { bySteps(t, "Log") }

func TestP7_1ExpAtEdges(t *testing.T) {
	for _, x := range edges() { // a nought stays, whatever e is
		for _, y := range []float64{0, minusNought} {
			want(t, "Exp", complex(x, y), power.Exp(complex(x, y)), complex(elem.Exp(x), y))
		}
	}
	for _, x := range edges() {
		for _, y := range []float64{none, infinite, -infinite, 0x1p21, -0x1p21, math.Nextafter(0x1p20, infinite), math.Nextafter(-0x1p20, -infinite), greatest} {
			want(t, "Exp", complex(x, y), power.Exp(complex(x, y)), complex(none, none))
		}
	}
	for _, y := range []float64{1, -1, least, -least, 0x1p20, -0x1p20} {
		want(t, "Exp", complex(none, y), power.Exp(complex(none, y)), complex(none, none))
	}
	for _, r := range []row{
		{complex(infinite, 1), complex(infinite, infinite)},
		{complex(800, -1), complex(infinite, -infinite)},
		{complex(710, 2), complex(-infinite, infinite)},
		{complex(710, -2), complex(-infinite, -infinite)},
		{complex(infinite, least), complex(infinite, infinite)},
		{complex(infinite, minusNought), complex(infinite, minusNought)},
		{complex(-infinite, 0), 0},
		{complex(-infinite, minusNought), complex(0, minusNought)},
		{complex(-746, 2), complex(minusNought, 0)},
		{complex(-746, -2), complex(minusNought, minusNought)},
		{complex(-746, -1), complex(0, minusNought)},
		{complex(-745.13, 2), complex(minusNought, least)}, // the least float, times less than a half, vanishes
		{complex(0, least), complex(1, least)},
		{complex(none, 0), complex(none, 0)},
		{complex(none, minusNought), complex(none, minusNought)},
	} {
		want(t, "Exp", r.a, power.Exp(r.a), r.ought)
	}
}

func TestP7_1LogAtEdges(t *testing.T) {
	for _, r := range []row{
		{0, complex(-infinite, 0)},
		{complex(0, minusNought), complex(-infinite, minusNought)},
		{complex(minusNought, 0), complex(-infinite, half)},
		{complex(minusNought, minusNought), complex(-infinite, -half)},
		{complex(infinite, 0), complex(infinite, 0)},
		{complex(infinite, minusNought), complex(infinite, minusNought)},
		{complex(infinite, -5), complex(infinite, minusNought)},
		{complex(-infinite, 0), complex(infinite, half)},
		{complex(-infinite, -greatest), complex(infinite, -half)},
		{complex(0, infinite), complex(infinite, half/2)},
		{complex(-greatest, -infinite), complex(infinite, -0x1.921fb54442d19p0)},
		{complex(infinite, infinite), complex(infinite, half/4)},
		{complex(infinite, -infinite), complex(infinite, -half/4)},
		{complex(-infinite, infinite), complex(infinite, 0x1.2d97c7f3321d2p1)},
		{complex(-infinite, -infinite), complex(infinite, -0x1.2d97c7f3321d2p1)},
		{complex(none, infinite), complex(infinite, none)},
		{complex(-infinite, none), complex(infinite, none)},
		{complex(none, 0), complex(none, none)},
		{complex(0, none), complex(none, none)},
		{complex(none, none), complex(none, none)},
		{complex(minusNought, -1), complex(0, -0x1.921fb54442d19p0)}, // P5.4 comes to one unit more beside a minus
		{complex(greatest, greatest), complex(infinite, half/4)},
		{complex(least, 0), complex(elem.Log(least), 0)},
		{complex(minusNought, least), complex(elem.Log(least), 0x1.921fb54442d19p0)},
		{complex(-greatest, least), complex(elem.Log(greatest), half)},
	} {
		want(t, "Log", r.a, power.Log(r.a), r.ought)
	}
	for _, x := range edges() {
		if x > 0 && x <= greatest {
			want(t, "Log", x, power.Log(complex(x, 0)), complex(elem.Log(x), 0))
			want(t, "Log", x, power.Log(complex(x, minusNought)), complex(elem.Log(x), minusNought))
			want(t, "Log", -x, power.Log(complex(-x, 0)), complex(elem.Log(x), half))
			want(t, "Log", -x, power.Log(complex(-x, minusNought)), complex(elem.Log(x), -half))
		}
	}
}

func TestP7_2Real(t *testing.T) {
	for _, a := range pairs([]float64{none, infinite, -infinite, 0, minusNought, 1, -1, 0.5, -3, least, -least, greatest, -greatest, 1e200}) {
		for _, p := range edges() {
			want(t, "Real", []any{a, p}, power.Real(a, p), realSteps(a, p))
		}
	}
	d := newDice()
	for range 60000 {
		a, p := d.number(), d.power()
		want(t, "Real", []any{a, p}, power.Real(a, p), realSteps(a, p))
	}
}

func TestP7_2RealAtEdges(t *testing.T) {
	for _, a := range pairs(edges()) {
		for _, p := range []float64{0, minusNought} {
			want(t, "Real by a nought", a, power.Real(a, p), 1)
		}
		want(t, "Real by no number", a, power.Real(a, none), complex(none, none))
	}
	for _, r := range []struct {
		a     complex128
		p     float64
		ought complex128
	}{
		{0, 0.5, 0},
		{complex(0, minusNought), 2, complex(0, minusNought)},
		{complex(minusNought, 0), 1, complex(minusNought, 0)},
		{complex(minusNought, minusNought), 1, complex(minusNought, minusNought)},
		{0, -1, complex(infinite, minusNought)},
		{0, -0.25, complex(infinite, minusNought)},
		{complex(minusNought, 0), -0.5, complex(infinite, -infinite)},
		{1, 5, 1},
		{1, -5, complex(1, minusNought)},
		{1, infinite, complex(none, none)},                    // nought times what is infinite
		{complex(2, 1), infinite, complex(none, none)},        // an infinite angle
		{complex(0.25, 1e-9), -infinite, complex(none, none)}, // here, too
		{complex(infinite, 0), 2, complex(infinite, 0)},
		{complex(infinite, 0), -2, complex(0, minusNought)},
		{complex(none, 1), 2, complex(none, none)},
		{complex(-1, 0), 0x1p20, complex(none, none)}, // an angle beyond 2^20
		{complex(-1, 0), -0x1p20, complex(none, none)},
		{complex(0, 1), 1e6, complex(none, none)},
		{complex(1, 0), 0x1p30, 1}, // a nought is no angle beyond it
	} {
		if got := power.Real(r.a, r.p); !same(got, r.ought) {
			t.Errorf("Real(%v, %v): %v, not %v", r.a, r.p, got, r.ought)
		}
	}
}

func TestP7_2Power(t *testing.T) {
	few := []float64{none, infinite, -infinite, 0, minusNought, 1, -1, 0.5, -3, least, greatest}
	for _, a := range pairs(few) {
		for _, p := range pairs(few) {
			want(t, "Power", []any{a, p}, power.Power(a, p), powerSteps(a, p))
		}
	}
	d := newDice()
	for range 60000 {
		a, p := d.number(), complex(d.power(), d.power())
		want(t, "Power", []any{a, p}, power.Power(a, p), powerSteps(a, p))
		p = complex(d.part(2), d.part(2))
		want(t, "Power", []any{a, p}, power.Power(a, p), powerSteps(a, p))
	}
}

func TestP7_2PowerAtEdges(t *testing.T) {
	for _, a := range pairs(edges()) {
		for _, p := range pairs([]float64{0, minusNought}) {
			want(t, "Power by noughts", a, power.Power(a, p), 1)
		}
	}
	for _, r := range []struct{ a, p, ought complex128 }{
		{0, 1, complex(none, none)}, // the nought of p times the infinite logarithm
		{0, 1i, complex(none, none)},
		{0, 1 + 1i, complex(none, none)}, // an infinite angle
		{1, complex(0, 5), 1},
		{2, complex(0, least), complex(1, least)},
		{complex(none, 0), 1, complex(none, none)},
		{2, complex(none, 0), complex(none, none)},
		{complex(0, 1), complex(0, 0x1p21), complex(0, 0)}, // the angle's part is small, the power's great
		{2, complex(0, 0x1p21), complex(none, none)},       // an angle beyond 2^20
		{1, 0x1p30, 1},
		{-1, complex(-3, minusNought), power.Exp(complex(minusNought, -3*half))},
	} {
		if got := power.Power(r.a, r.p); !like(got, r.ought) {
			t.Errorf("Power(%v, %v): %v, not %v", r.a, r.p, got, r.ought)
		}
	}
	if a := power.Power(2, complex(least, 0)); !same(a, 1) {
		t.Error("one part of p that is not nought is enough", a)
	}
}

func TestP7_3Sin(t *testing.T)  { bySteps(t, "Sin") }
func TestP7_3Cos(t *testing.T)  { bySteps(t, "Cos") }
func TestP7_3Sinh(t *testing.T) { bySteps(t, "Sinh") }
func TestP7_3Cosh(t *testing.T) { bySteps(t, "Cosh") }

func TestP7_3Noughts(t *testing.T) {
	o, z := 0.0, minusNought
	for _, r := range []struct{ a, sin, cos, sinh, cosh complex128 }{
		{complex(o, o), complex(o, o), complex(1, z), complex(o, o), complex(1, o)},
		{complex(o, z), complex(o, z), complex(1, o), complex(o, z), complex(1, z)},
		{complex(z, o), complex(z, o), complex(1, o), complex(z, o), complex(1, z)},
		{complex(z, z), complex(z, z), complex(1, z), complex(z, z), complex(1, o)},
	} {
		want(t, "Sin", r.a, power.Sin(r.a), r.sin)
		want(t, "Cos", r.a, power.Cos(r.a), r.cos)
		want(t, "Sinh", r.a, power.Sinh(r.a), r.sinh)
		want(t, "Cosh", r.a, power.Cosh(r.a), r.cosh)
	}
}

func TestP7_3AtEdges(t *testing.T) {
	far := []float64{none, infinite, -infinite, 0x1p21, -0x1p21, math.Nextafter(0x1p20, infinite), greatest}
	for _, x := range edges() {
		for _, y := range far { // an angle that is none
			want(t, "Sin", complex(y, x), power.Sin(complex(y, x)), complex(none, none))
			want(t, "Cos", complex(y, x), power.Cos(complex(y, x)), complex(none, none))
			want(t, "Sinh", complex(x, y), power.Sinh(complex(x, y)), complex(none, none))
			want(t, "Cosh", complex(x, y), power.Cosh(complex(x, y)), complex(none, none))
		}
	}
	for _, r := range []struct{ a, sin, cos, sinh, cosh complex128 }{
		{complex(1, infinite), complex(infinite, infinite), complex(infinite, -infinite), complex(none, none), complex(none, none)},
		{complex(1, -infinite), complex(infinite, -infinite), complex(infinite, infinite), complex(none, none), complex(none, none)},
		{complex(0, infinite), complex(none, infinite), complex(infinite, none), complex(none, none), complex(none, none)},
		{complex(infinite, 1), complex(none, none), complex(none, none), complex(infinite, infinite), complex(infinite, infinite)},
		{complex(-infinite, 1), complex(none, none), complex(none, none), complex(-infinite, infinite), complex(infinite, -infinite)},
		{complex(infinite, 0), complex(none, none), complex(none, none), complex(infinite, none), complex(infinite, none)},
		{complex(2, 800), complex(infinite, -infinite), complex(-infinite, -infinite), sinhSteps(complex(2, 800)), coshSteps(complex(2, 800))},
		{complex(none, 0), complex(none, none), complex(none, none), complex(none, none), complex(none, none)},
		{complex(0, none), complex(none, none), complex(none, none), complex(none, none), complex(none, none)},
		{complex(least, -least), complex(least, -least), complex(1, 0), complex(least, -least), complex(1, minusNought)},
	} {
		want(t, "Sin", r.a, power.Sin(r.a), r.sin)
		want(t, "Cos", r.a, power.Cos(r.a), r.cos)
		want(t, "Sinh", r.a, power.Sinh(r.a), r.sinh)
		want(t, "Cosh", r.a, power.Cosh(r.a), r.cosh)
	}
}

func wantSheet(t *testing.T, a complex128, n int, ought complex128, is bool) {
	t.Helper()
	if got, told := power.Sheet(a, n); !same(got, ought) || told != is {
		t.Errorf("Sheet(%x, %d): %x, %v, not %x, %v", a, n, got, told, ought, is)
	}
}

func TestP7_4Sheet(t *testing.T) {
	ends := []int{math.MinInt, math.MinInt32, -1<<20 - 1, -1 << 20, -1<<20 + 1, -3, -1, 0, 1, 2, 7, 1<<20 - 1, 1 << 20, 1<<20 + 1, 1 << 32, 1<<32 + 1, math.MaxInt}
	for _, a := range pairs(edges()) {
		for _, n := range ends {
			ought, is := sheetSteps(a, n)
			wantSheet(t, a, n, ought, is)
		}
	}
	d := newDice()
	for range 60000 {
		a, n := d.number(), int(d.word()%(1<<21+9))-1<<20-4
		ought, is := sheetSteps(a, n)
		wantSheet(t, a, n, ought, is)
		n = int(d.word()%33) - 16
		ought, is = sheetSteps(a, n)
		wantSheet(t, a, n, ought, is)
	}
}

func TestP7_4SheetAtEdges(t *testing.T) {
	for _, n := range []int{math.MinInt, -1<<20 - 1, 1<<20 + 1, math.MaxInt} {
		wantSheet(t, 1, n, 0, false)
	}
	for _, a := range []complex128{0, complex(minusNought, 0), complex(infinite, 0), complex(0, -infinite), complex(none, 1), complex(1, none), complex(none, infinite), complex(greatest, greatest)} {
		for _, n := range []int{-1 << 20, -1, 0, 1, 1 << 20} {
			wantSheet(t, a, n, 0, false)
		}
	}
	wantSheet(t, 1, 1<<20, complex(0, 0x1p21*half), true)
	wantSheet(t, 1, -1<<20, complex(0, -0x1p21*half), true)
	wantSheet(t, 1, 0, 0, true)
	wantSheet(t, complex(1, minusNought), 0, 0, true) // a nought is added, and that is +0
	wantSheet(t, -1, 0, complex(0, half), true)
	wantSheet(t, complex(-1, minusNought), 0, complex(0, -half), true)
	wantSheet(t, complex(-1, minusNought), 1, complex(0, half), true)
	wantSheet(t, -1, -1, complex(0, -half), true)
	wantSheet(t, 2i, 1, complex(elem.Log(2), half/2+2*half), true)
	wantSheet(t, complex(least, 0), -1, complex(elem.Log(least), -2*half), true)
	wantSheet(t, complex(-greatest, 0), 1, complex(elem.Log(greatest), 3*half), true)
}

func TestP7_6Mirror(t *testing.T) {
	for _, c := range calls() {
		for _, a := range many(20000) {
			want(t, c.name+" of the Conj", a, c.does(parts.Conj(a)), parts.Conj(c.does(a)))
		}
	}
	d := newDice()
	for _, a := range many(20000) {
		p := d.power()
		if p != 0 {
			want(t, "Real of the Conj", []any{a, p}, power.Real(parts.Conj(a), p), parts.Conj(power.Real(a, p)))
		}
		q := complex(d.power(), d.power())
		if got, ought := power.Power(parts.Conj(a), parts.Conj(q)), parts.Conj(power.Power(a, q)); !like(got, ought) {
			t.Errorf("Power of Conj(%x) by Conj(%x): %x, not %x", a, q, got, ought)
		}
	}
	for _, a := range pairs([]float64{none, infinite, -infinite, 0, minusNought, 1, -2, 0.25}) {
		for _, p := range edges() {
			if p != 0 {
				want(t, "Real of the Conj", []any{a, p}, power.Real(parts.Conj(a), p), parts.Conj(power.Real(a, p)))
			}
		}
	}
}

func TestP7_6Turned(t *testing.T) {
	for _, a := range many(40000) {
		want(t, "Sin of i a", a, power.Sin(parts.Times(a)), parts.Times(power.Sinh(a)))
		want(t, "Cos of i a", a, power.Cos(parts.Times(a)), power.Cosh(a))
	}
}

func TestP7_6OnTheCut(t *testing.T) {
	h, _ := angle.Pi()
	for _, x := range edges() {
		if x < 0 {
			if up, down := power.Log(complex(x, 0)), power.Log(complex(x, minusNought)); imag(up) != h || imag(down) != -h {
				t.Errorf("Log of %x on the cut: %x, %x", x, up, down)
			}
		}
	}
}

func TestP7_6RealByOne(t *testing.T) {
	for _, a := range many(20000) {
		want(t, "Real by 1", a, power.Real(a, 1), power.Exp(power.Log(a)))
	}
}

func TestP7_6SheetsApart(t *testing.T) {
	d := newDice()
	for range 20000 {
		a := complex(d.part(300), d.part(300))
		n := int(d.word()%(1<<21+1)) - 1<<20
		here, is := power.Sheet(a, 0)
		there, too := power.Sheet(a, n)
		if !is || !too || real(here) != real(there) || !likeFloats(imag(there), plus(imag(here), times(float64(n), 2*half))) {
			t.Errorf("Sheet(%x, %d): %x, beside %x", a, n, there, here)
		}
	}
}
