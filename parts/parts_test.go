package parts_test

import (
	"math"
	"math/big"
	"slices"
	"testing"

	"eddy/parts"
)

const (
	least    = 0x1p-1074
	greatest = math.MaxFloat64
)

var (
	minusNought = math.Copysign(0, -1)
	infinite    = math.Inf(1)
	none        = math.NaN()
)

// nones are bit rows of no number: quiet and signalling ones, of either sign.
func nones() []float64 {
	var l []float64
	for _, bits := range []uint64{0x7ff8000000000000, 0x7ff8000000000001, 0x7ff0000000000001, 0x7fffffffffffffff} {
		l = append(l, math.Float64frombits(bits), math.Float64frombits(bits|1<<63))
	}
	return l
}

// numbers are the edges, infinite ones too, with either sign.
func numbers() []float64 {
	var l []float64
	for _, a := range []float64{0, least, 0x1p-600, 0.1, 1, 1 + 0x1p-30, 3, 1<<27 + 1, 0x1p600, greatest, infinite} {
		l = append(l, a, -a)
	}
	return append(l, minusNought)
}

// pairs are all complex numbers of these parts.
func pairs(l []float64) []complex128 {
	var out []complex128
	for _, x := range l {
		for _, y := range l {
			out = append(out, complex(x, y))
		}
	}
	return out
}

func edges() []complex128 { return pairs(append(numbers(), nones()[:4]...)) }

// dice tells words, the same ones at each run.
type dice uint64

func newDice() *dice {
	d := dice(0x9e3779b97f4a7c15)
	return &d
}

func (d *dice) word() uint64 {
	x := *d
	x ^= x << 13
	x ^= x >> 7
	x ^= x << 17
	*d = x
	return uint64(x)
}

// part is a float of either sign, from 2^-reach to 2^reach without it, and at times a nought.
func (d *dice) part(reach int) float64 {
	w := d.word()
	if w%16 == 0 {
		return math.Copysign(0, float64(int64(w)))
	}
	m := 1 + float64(w>>12)*0x1p-52
	x := math.Ldexp(m, int(d.word()%uint64(2*reach))-reach)
	return math.Copysign(x, float64(int64(d.word())))
}

func (d *dice) number(reach int) complex128 { return complex(d.part(reach), d.part(reach)) }

// wild has any bits in its parts.
func (d *dice) wild() complex128 {
	return complex(math.Float64frombits(d.word()), math.Float64frombits(d.word()))
}

// couples hands two numbers each to ask: all edges, near and far ones, any bits.
func couples(ask func(a, b complex128)) {
	l := edges()
	for _, a := range l {
		for _, b := range l {
			ask(a, b)
		}
	}
	d := newDice()
	for range 20000 {
		ask(d.number(1), d.number(1))
		ask(d.number(60), d.number(60))
		ask(d.wild(), d.wild())
	}
}

// sameFloats and likeFloats hold floats against each other without asking the package.
func sameFloats(a, b float64) bool {
	return math.IsNaN(a) && math.IsNaN(b) || math.Float64bits(a) == math.Float64bits(b)
}

func likeFloats(a, b float64) bool { return a == b || math.IsNaN(a) && math.IsNaN(b) }

func same(a, b complex128) bool {
	return sameFloats(real(a), real(b)) && sameFloats(imag(a), imag(b))
}

func like(a, b complex128) bool {
	return likeFloats(real(a), real(b)) && likeFloats(imag(a), imag(b))
}

// bitsAlike asks for every bit, of what is no number too.
func bitsAlike(a, b complex128) bool {
	return math.Float64bits(real(a)) == math.Float64bits(real(b)) && math.Float64bits(imag(a)) == math.Float64bits(imag(b))
}

func turn(a float64) float64 { return math.Float64frombits(math.Float64bits(a) ^ 1<<63) }

func want(t *testing.T, what string, got, want complex128) {
	t.Helper()
	if !same(got, want) {
		t.Errorf("%s: %x, not %x", what, got, want)
	}
}

// The operations as calls that are not inlined: none of them can be fused with another one.

//go:noinline
func plus(x, y float64) float64 { return x + y }

//go:noinline
func less(x, y float64) float64 { return x - y }

//go:noinline
func times(x, y float64) float64 { return x * y }

//go:noinline
func over(x, y float64) float64 { return x / y }

func product(a, b complex128) complex128 {
	p, q, r, s := real(a), imag(a), real(b), imag(b)
	return complex(less(times(p, r), times(q, s)), plus(times(p, s), times(q, r)))
}

func quotient(a, b complex128) complex128 {
	p, q, r, s := real(a), imag(a), real(b), imag(b)
	if math.Abs(r) >= math.Abs(s) {
		k := over(s, r)
		t := plus(r, times(s, k))
		return complex(over(plus(p, times(q, k)), t), over(less(q, times(p, k)), t))
	}
	k := over(r, s)
	t := plus(times(r, k), s)
	return complex(over(plus(times(p, k), q), t), over(less(times(q, k), p), t))
}

func TestExamples(t *testing.T) {
	big := complex(1<<27+1, 1)
	for _, c := range []struct {
		what      string
		got, want complex128
	}{
		{"Add", parts.Add(1+2i, 3-4i), 4 - 2i},
		{"Sub", parts.Sub(1+2i, 3-4i), -2 + 6i},
		{"Sum of none", parts.Sum(nil), 0},
		{"Sum of two", parts.Sum([]complex128{1 + 2i, 3 + 4i}), 4 + 6i},
		{"Mul", parts.Mul(1+2i, 3+4i), -5 + 10i},
		{"Mul of i", parts.Mul(1i, 1i), -1},
		{"Mul of an infinite one", parts.Mul(complex(infinite, 0), 1i), complex(none, infinite)},
		{"Mul of 2^27 + 1", parts.Mul(big, big), complex(1<<54+1<<28, 1<<28+2)},
		{"Div", parts.Div(1+2i, 3+4i), 0.44 + 0.08i},
		{"Div by i", parts.Div(1, 1i), complex(0, -1)},
		{"Div by nought", parts.Div(1+2i, 0), complex(none, none)},
		{"Div by 2^600", parts.Div(1, complex(0x1p600, 0x1p600)), complex(0x1p-601, -0x1p-601)},
		{"Scale", parts.Scale(1-2i, 0.5), 0.5 - 1i},
		{"Times", parts.Times(1 + 2i), -2 + 1i},
		{"Times of nought", parts.Times(0), complex(minusNought, 0)},
		{"Conj", parts.Conj(1), complex(1, minusNought)},
		{"Neg", parts.Neg(1i), complex(minusNought, -1)},
		{"Mirror", parts.Mirror(1i), complex(minusNought, 1)},
		{"Whole of i", parts.Whole(1i, 2), -1},
		{"Whole, 5", parts.Whole(1+1i, 5), -4 - 4i},
		{"Whole, -2", parts.Whole(2, -2), 0.25},
		{"Whole, 0", parts.Whole(complex(none, 0), 0), 1},
	} {
		want(t, c.what, c.got, c.want)
	}
	for i, o := range []int{
		parts.Order(1+2i, 1+3i) + 1,
		parts.Order(0, complex(minusNought, minusNought)),
		parts.Order(complex(none, 0), complex(infinite, 5)) - 1,
		parts.Order(complex(1, none), 1+9i) - 1,
	} {
		if o != 0 {
			t.Errorf("Order %d is off by %d", i, o)
		}
	}
	nought := complex(minusNought, 0)
	if parts.Same(0, nought) || !parts.Like(0, nought) || !parts.Like(complex(none, 0), complex(none, minusNought)) || parts.Within(complex(1, none), 2) {
		t.Error("the examples of comparisons")
	}
}

func TestP2_1AddAndSub(t *testing.T) {
	couples(func(a, b complex128) {
		if got := parts.Add(a, b); !same(got, complex(real(a)+real(b), imag(a)+imag(b))) {
			t.Errorf("Add(%x, %x) is %x", a, b, got)
		}
		if got := parts.Sub(a, b); !same(got, complex(real(a)-real(b), imag(a)-imag(b))) {
			t.Errorf("Sub(%x, %x) is %x", a, b, got)
		}
	})
}

func TestP2_1Sum(t *testing.T) {
	m := complex(minusNought, minusNought)
	for _, c := range []struct {
		l    []complex128
		want complex128
	}{
		{nil, 0},
		{[]complex128{}, 0},
		{[]complex128{m}, m},
		{[]complex128{m, m}, m},
		{[]complex128{m, 0}, 0},
		{[]complex128{complex(none, 1)}, complex(none, 1)},
		{[]complex128{1, 2i, complex(infinite, 3)}, complex(infinite, 5)},
		// from the left the ones are swallowed, from the right or in pairs they are not
		{[]complex128{0x1p53 + 1i, 1 + 0x1p53i, 1 + 1i, 1 + 1i}, 0x1p53 + 0x1p53i},
		{[]complex128{1 + 1i, 1 + 1i, 0x1p53 + 0x1p53i}, (0x1p53 + 2) + (0x1p53+2)*1i},
		{[]complex128{0x1p53, 1, -0x1p53, 5i}, 5i},
	} {
		kept := slices.Clone(c.l)
		want(t, "Sum", parts.Sum(c.l), c.want)
		if !slices.EqualFunc(c.l, kept, bitsAlike) {
			t.Errorf("Sum changed %x", kept)
		}
	}
}

func TestP2_2Mul(t *testing.T) {
	couples(func(a, b complex128) {
		if got := parts.Mul(a, b); !same(got, product(a, b)) {
			t.Errorf("Mul(%x, %x) is %x, not %x", a, b, got, product(a, b))
		}
	})
}

func TestP2_2MulAtEdges(t *testing.T) {
	e, f := 1+0x1p-30, 1+0x1p-29
	for _, c := range []struct{ a, b, want complex128 }{
		// e * e is f once it is rounded: what is left of the difference, or of the sum, is nought
		{complex(e, 1), complex(e, f), complex(0, e*f+e)},
		{complex(e, 1), complex(-f, e), complex(-(e*f)-e, 0)},
		{complex(1, e), complex(f, e), complex(0, e+e*f)},
		{0, complex(minusNought, minusNought), complex(0, minusNought)},
		{complex(minusNought, 0), complex(0, 0), complex(minusNought, 0)},
		{complex(minusNought, minusNought), complex(minusNought, minusNought), 0},
		{complex(infinite, 0), complex(infinite, 0), complex(infinite, none)},
		{complex(infinite, infinite), complex(1, 1), complex(none, infinite)},
		{complex(infinite, 1), complex(2, -1), complex(infinite, -infinite)},
		{complex(greatest, 0), complex(2, 0), complex(infinite, 0)},
		{complex(none, 0), complex(1, 0), complex(none, none)},
		{1, complex(0, none), complex(none, none)},
	} {
		want(t, "Mul", parts.Mul(c.a, c.b), c.want)
	}
}

func TestP2_2ScaleAndTimes(t *testing.T) {
	for _, a := range edges() {
		for _, s := range append(numbers(), nones()...) {
			if got := parts.Scale(a, s); !same(got, complex(real(a)*s, imag(a)*s)) {
				t.Errorf("Scale(%x, %x) is %x", a, s, got)
			}
		}
		if got := parts.Times(a); !bitsAlike(got, complex(turn(imag(a)), real(a))) {
			t.Errorf("Times(%x) is %x", a, got)
		}
	}
	want(t, "Scale of an infinite part", parts.Scale(complex(infinite, 0), -2), complex(-infinite, minusNought))
}

// A sum behind Scale must not reach into it: its products are rounded.
func TestP2_2ScaleIsRounded(t *testing.T) {
	d := newDice()
	for range 20000 {
		a, b, s := d.number(4), d.number(4), d.part(4)
		sum := complex(plus(times(real(a), s), real(b)), plus(times(imag(a), s), imag(b)))
		want(t, "Scale and Add", parts.Add(parts.Scale(a, s), b), sum)
	}
}

func TestP2_3Div(t *testing.T) {
	couples(func(a, b complex128) {
		if got := parts.Div(a, b); !same(got, quotient(a, b)) {
			t.Errorf("Div(%x, %x) is %x, not %x", a, b, got, quotient(a, b))
		}
	})
}

func TestP2_3DivAtEdges(t *testing.T) {
	for _, c := range []struct{ a, b, want complex128 }{
		// parts alike in worth go the first way: the other one would turn the nought's sign
		{1 + 1i, 1 - 1i, complex(0, 1)},
		{1 + 1i, -1 + 1i, complex(minusNought, -1)},
		{1 - 1i, 1 + 1i, complex(0, -1)},
		{0, 2, 0},
		{0, -2, complex(minusNought, minusNought)},
		{complex(minusNought, 0), 2i, 0},
		{0, complex(0, -2), complex(minusNought, 0)},
		{complex(minusNought, minusNought), 2, complex(minusNought, 0)},
		{1, complex(infinite, 1), 0},
		{1, complex(1, infinite), complex(0, minusNought)},
		{1, complex(-infinite, 1), complex(minusNought, minusNought)},
		{1, complex(infinite, infinite), complex(none, none)},
		{complex(infinite, 0), 2i, complex(none, -infinite)},
		{complex(infinite, 1), 2 + 1i, complex(infinite, -infinite)},
		{1, 0, complex(none, none)},
		{1, complex(minusNought, 0), complex(none, none)},
		{0x1p1000, 0x1p-1000, complex(infinite, 0)},
		{0x1p-1074, complex(0x1p-1074, 0x1p-1074), 0.5 - 0.5i},
	} {
		want(t, "Div", parts.Div(c.a, c.b), c.want)
	}
	for _, n := range nones() {
		for _, x := range []float64{0, minusNought, 1, -2, infinite, none} {
			for _, a := range []complex128{complex(n, x), complex(x, n)} {
				for _, b := range []complex128{1, 1i, 3 - 4i, complex(infinite, 0), 0} {
					want(t, "Div of no number", parts.Div(a, b), complex(none, none))
					want(t, "Div by no number", parts.Div(b, a), complex(none, none))
				}
			}
		}
	}
}

func TestP2_4Signs(t *testing.T) {
	for _, a := range pairs(append(numbers(), nones()...)) {
		p, q := real(a), imag(a)
		for _, c := range []struct {
			what      string
			got, want complex128
		}{
			{"Conj", parts.Conj(a), complex(p, turn(q))},
			{"Neg", parts.Neg(a), complex(turn(p), turn(q))},
			{"Mirror", parts.Mirror(a), complex(turn(p), q)},
		} {
			if !bitsAlike(c.got, c.want) {
				t.Errorf("%s of %x is %x", c.what, a, c.got)
			}
		}
	}
}

func TestP2_5SameAndLike(t *testing.T) {
	couples(func(a, b complex128) {
		if parts.Same(a, b) != same(a, b) {
			t.Errorf("Same(%x, %x) is %v", a, b, !same(a, b))
		}
		if parts.Like(a, b) != like(a, b) {
			t.Errorf("Like(%x, %x) is %v", a, b, !like(a, b))
		}
	})
	for _, n := range nones() {
		for _, m := range nones() {
			if !parts.Same(complex(n, 1), complex(m, 1)) || !parts.Like(complex(1, n), complex(1, m)) {
				t.Errorf("%x and %x are not told as one", n, m)
			}
		}
	}
}

func TestP2_5FiniteAndWithin(t *testing.T) {
	for _, a := range edges() {
		x, y := math.Abs(real(a)), math.Abs(imag(a))
		if is := x <= greatest && y <= greatest; parts.Finite(a) != is {
			t.Errorf("Finite(%x) is %v", a, !is)
		}
		for _, most := range append(numbers(), none) {
			if is := x <= most && y <= most; parts.Within(a, most) != is {
				t.Errorf("Within(%x, %x) is %v", a, most, !is)
			}
		}
	}
}

func TestP2_6NarrowAndWiden(t *testing.T) {
	d := newDice()
	l := edges()
	for range 5000 {
		l = append(l, d.number(40), d.number(160))
	}
	for _, a := range l {
		got := parts.Narrow(a)
		if !same(complex128(got), complex(float64(float32(real(a))), float64(float32(imag(a))))) {
			t.Errorf("Narrow(%x) is %x", a, got)
		}
		wide := parts.Widen(got)
		if !same(wide, complex(float64(real(got)), float64(imag(got)))) {
			t.Errorf("Widen(%x) is %x", got, wide)
		}
	}
	const most, half = math.MaxFloat32, 0x1p103 // half a unit of float32's greatest one
	for _, c := range []struct{ a, want float64 }{
		{most, most}, {most + half - 0x1p76, most}, {most + half, infinite}, {0x1p128, infinite}, {greatest, infinite},
		{0x1p-149, 0x1p-149}, {0x1p-150, 0}, {0x1p-150 + 0x1p-202, 0x1p-149}, {0x3p-150, 0x1p-148}, {least, 0},
		{1 + 0x1p-24, 1}, {1 + 0x3p-24, 1 + 0x1p-22}, {0.1, float64(float32(0.1))},
	} {
		want(t, "narrowed", parts.Widen(parts.Narrow(complex(c.a, -c.a))), complex(c.want, turn(c.want)))
	}
}

// power goes by digits, written as text, so that it shares no shifts with the package.
func power(a complex128, n int) complex128 {
	m := new(big.Int).Abs(big.NewInt(int64(n)))
	if n == 0 {
		return 1
	}
	x := a
	for _, digit := range m.Text(2)[1:] {
		x = product(x, x)
		if digit == '1' {
			x = product(x, a)
		}
	}
	if n < 0 {
		return quotient(1, x)
	}
	return x
}

func exponents() []int {
	l := []int{math.MaxInt64, math.MaxInt64 - 1, math.MinInt64, math.MinInt64 + 1, 1 << 62, 1<<62 + 1, -1 << 62, 1 << 32, 1<<32 + 1, -1<<31 - 1, 1e9, 12345}
	for n := -40; n <= 40; n++ {
		l = append(l, n)
	}
	return l
}

func TestP2_7Whole(t *testing.T) {
	d := newDice()
	l := edges()
	for range 300 {
		l = append(l, d.number(1), complex(math.Copysign(1-math.Abs(d.part(40))*0x1p-50, d.part(1)), d.part(10)*0x1p-50), d.wild())
	}
	for _, a := range l {
		for _, n := range exponents() {
			if got := parts.Whole(a, n); !same(got, power(a, n)) {
				t.Errorf("Whole(%x, %d) is %x, not %x", a, n, got, power(a, n))
			}
		}
	}
}

func TestP2_7WholeAtEdges(t *testing.T) {
	for _, n := range nones() {
		want(t, "Whole of n = 0", parts.Whole(complex(n, n), 0), 1)
	}
	m := complex(minusNought, minusNought)
	for _, c := range []struct {
		a    complex128
		n    int
		want complex128
	}{
		{0, 0, 1}, {m, 0, 1}, {complex(infinite, infinite), 0, 1},
		{m, 1, m}, {complex(none, minusNought), 1, complex(none, minusNought)}, {0.1 - 3i, 1, 0.1 - 3i},
		{2i, -1, complex(0, -0.5)}, {4, -1, 0.25}, {0, -1, complex(none, none)}, {complex(infinite, 1), -1, 0},
		{1, math.MaxInt64, 1}, {-1, math.MaxInt64, -1}, {1i, math.MaxInt64, complex(0, -1)}, {2, math.MaxInt64, complex(none, none)},
		{-1, math.MinInt64, 1}, {1i, math.MinInt64, 1}, {1i, math.MinInt64 + 1, 1i}, {complex(infinite, 0), math.MinInt64, complex(none, none)},
	} {
		if got := parts.Whole(c.a, c.n); !like(got, c.want) {
			t.Errorf("Whole(%x, %d) is %x, not %x", c.a, c.n, got, c.want)
		}
	}
}

// A turn by 2^-63, as often as the greatest and the least n say, comes to a turn by 1 and back by 1.
func TestP2_7WholeOfTheLeastTurn(t *testing.T) {
	a := complex(1, 0x1p-63)
	for _, c := range []struct {
		n    int
		turn float64
	}{{math.MaxInt64, 1}, {math.MinInt64, -1}, {math.MinInt64 + 1, -1}, {1 << 62, 0.5}, {-1 << 61, -0.25}} {
		got := parts.Whole(a, c.n)
		if math.Abs(real(got)-math.Cos(c.turn)) > 0x1p-20 || math.Abs(imag(got)-math.Sin(c.turn)) > 0x1p-20 {
			t.Errorf("Whole(%x, %d) is %v", a, c.n, got)
		}
	}
}

// rank puts one float behind another by numbers: no number is behind the infinite ones.
func rank(a float64) int {
	switch {
	case math.IsNaN(a):
		return 3
	case math.IsInf(a, 1):
		return 2
	case math.IsInf(a, -1):
		return 0
	}
	return 1
}

func ahead(a, b float64) bool {
	if rank(a) != rank(b) {
		return rank(a) < rank(b)
	}
	return rank(a) == 1 && big.NewFloat(a).Cmp(big.NewFloat(b)) < 0
}

func order(a, b complex128) int {
	switch {
	case ahead(real(a), real(b)):
		return -1
	case ahead(real(b), real(a)):
		return 1
	case ahead(imag(a), imag(b)):
		return -1
	case ahead(imag(b), imag(a)):
		return 1
	}
	return 0
}

func TestP2_8Order(t *testing.T) {
	couples(func(a, b complex128) {
		if got := parts.Order(a, b); got != order(a, b) {
			t.Errorf("Order(%x, %x) is %d", a, b, got)
		}
	})
	for _, n := range nones() {
		for _, m := range nones() {
			if parts.Order(complex(n, 1), complex(m, 1)) != 0 || parts.Order(complex(n, 1), complex(m, 2)) != -1 || parts.Order(complex(n, n), complex(infinite, m)) != 1 {
				t.Errorf("%x and %x are told apart", n, m)
			}
		}
	}
}

func TestP2_9EitherWay(t *testing.T) {
	couples(func(a, b complex128) {
		if !same(parts.Add(a, b), parts.Add(b, a)) || !same(parts.Mul(a, b), parts.Mul(b, a)) {
			t.Errorf("%x and %x: not the same either way", a, b)
		}
		if !like(parts.Sub(a, b), parts.Add(a, parts.Neg(b))) {
			t.Errorf("Sub(%x, %x) is not Add of Neg", a, b)
		}
		if !like(parts.Mul(parts.Conj(a), parts.Conj(b)), parts.Conj(parts.Mul(a, b))) {
			t.Errorf("Mul of Conjs of %x and %x", a, b)
		}
		if !like(parts.Div(parts.Conj(a), parts.Conj(b)), parts.Conj(parts.Div(a, b))) {
			t.Errorf("Div of Conjs of %x and %x", a, b)
		}
	})
}

func TestP2_9Turns(t *testing.T) {
	d := newDice()
	l := pairs(append(numbers(), nones()...))
	for range 2000 {
		l = append(l, d.wild())
	}
	for _, a := range l {
		if !bitsAlike(parts.Times(parts.Times(parts.Times(parts.Times(a)))), a) {
			t.Errorf("Times four times, of %x", a)
		}
		if !bitsAlike(parts.Conj(parts.Conj(a)), a) || !bitsAlike(parts.Neg(parts.Neg(a)), a) || !bitsAlike(parts.Mirror(parts.Mirror(a)), a) {
			t.Errorf("turned twice, %x", a)
		}
		if !bitsAlike(parts.Mirror(a), parts.Neg(parts.Conj(a))) {
			t.Errorf("Mirror(%x) is not Neg of Conj", a)
		}
		if math.Abs(real(a)) <= greatest && math.Abs(imag(a)) <= greatest && !like(parts.Mul(a, 1i), parts.Times(a)) {
			t.Errorf("Mul(%x, i) is not Times", a)
		}
		for _, n := range exponents() {
			if !like(parts.Whole(parts.Conj(a), n), parts.Conj(parts.Whole(a, n))) {
				t.Errorf("Whole of Conj of %x, %d", a, n)
			}
		}
	}
}

func exactly(a float64) *big.Float { return new(big.Float).SetPrec(2000).SetFloat64(a) }

func mulExactly(x, y *big.Float) *big.Float { return new(big.Float).SetPrec(2000).Mul(x, y) }

// square is the length's square.
func square(a complex128) *big.Float {
	x, y := exactly(real(a)), exactly(imag(a))
	return new(big.Float).SetPrec(2000).Add(mulExactly(x, x), mulExactly(y, y))
}

// truly are the parts of a times b.
func truly(a, b complex128) (re, im *big.Float) {
	p, q, r, s := exactly(real(a)), exactly(imag(a)), exactly(real(b)), exactly(imag(b))
	re = new(big.Float).SetPrec(2000).Sub(mulExactly(p, r), mulExactly(q, s))
	im = new(big.Float).SetPrec(2000).Add(mulExactly(p, s), mulExactly(q, r))
	return re, im
}

// within tells whether got differs from true by at most 2^-units times far, of which the square is given.
func within(got float64, true, farSquare *big.Float, units int) bool {
	off := new(big.Float).SetPrec(2000).Sub(exactly(got), true)
	off = mulExactly(off, off)
	most := new(big.Float).SetPrec(2000).SetMantExp(farSquare, -2*units)
	return off.Cmp(most) <= 0
}

func nearMul(t *testing.T, a, b complex128) {
	got := parts.Mul(a, b)
	re, im := truly(a, b)
	far := mulExactly(square(a), square(b))
	if !within(real(got), re, far, 51) || !within(imag(got), im, far, 51) {
		t.Errorf("Mul(%x, %x) is %x: too far off", a, b, got)
	}
}

func nearDiv(t *testing.T, a, b complex128) {
	if b == 0 {
		return
	}
	got := parts.Div(a, b)
	re, im := truly(a, complex(real(b), -imag(b)))
	whole := square(b)
	re.Quo(re, whole)
	im.Quo(im, whole)
	far := new(big.Float).SetPrec(2000).Quo(square(a), whole)
	if !within(real(got), re, far, 48) || !within(imag(got), im, far, 48) {
		t.Errorf("Div(%x, %x) is %x: too far off", a, b, got)
	}
}

func TestP2_10Near(t *testing.T) {
	d := newDice()
	for i := range 6000 {
		reach := []int{1, 3, 50, 200}[i%4]
		a, b := d.number(reach), d.number(reach)
		nearMul(t, a, b)
		nearDiv(t, a, b)
	}
	ends := pairs([]float64{0, minusNought, 0x1p-200, -0x1p-200, 1 - 0x1p-53, 1 + 0x1p-52, 0x1p200, -0x1p200})
	for _, a := range ends {
		for _, b := range ends {
			nearMul(t, a, b)
			nearDiv(t, a, b)
		}
	}
}

func TestP2_11Row(t *testing.T) {
	l := pairs([]float64{none, turn(none), -infinite, -1, minusNought, 0, least, 1, infinite})
	for _, a := range l {
		for _, b := range l {
			ab := parts.Order(a, b)
			if parts.Order(b, a) != -ab {
				t.Errorf("Order of %x and %x is no opposite", a, b)
			}
			numbers := a == a && b == b
			if numbers && (ab == 0) != parts.Like(a, b) {
				t.Errorf("Order(%x, %x) is %d", a, b, ab)
			}
			for _, c := range l {
				if ab <= 0 && parts.Order(b, c) <= 0 && parts.Order(a, c) > 0 {
					t.Errorf("%x, %x, %x are no row", a, b, c)
				}
			}
		}
	}
}

func TestP2_11NarrowAndBack(t *testing.T) {
	d := newDice()
	for range 20000 {
		w := d.word()
		a := complex(math.Float32frombits(uint32(w)), math.Float32frombits(uint32(w>>32)))
		once := parts.Widen(a)
		if !same(parts.Widen(parts.Narrow(once)), once) {
			t.Errorf("Widen of Narrow of Widen of %x", a)
		}
	}
	for _, x := range []float64{0x1p128, 1e39, 0x1p600, greatest} {
		want(t, "Narrow beyond float32", parts.Widen(parts.Narrow(complex(x, -x))), complex(infinite, -infinite))
		want(t, "Narrow beyond float32", parts.Widen(parts.Narrow(complex(1, x))), complex(1, infinite))
	}
}
