package float_test

import (
	"math"
	"math/big"
	"slices"
	"testing"

	"eddy/float"
)

const (
	least    = 0x1p-1074
	greatest = math.MaxFloat64
)

var (
	minusNought = math.Copysign(0, -1)
	infinite    = math.Inf(1)
)

// nones are bit rows of no number: quiet and signalling ones, of either sign.
func nones() []float64 {
	var l []float64
	for _, bits := range []uint64{0x7ff8000000000000, 0x7ff8000000000001, 0x7ff0000000000001, 0x7fffffffffffffff} {
		l = append(l, math.Float64frombits(bits), math.Float64frombits(bits|1<<63))
	}
	return l
}

// numbers are the edges, infinite ones too, with either sign.
func numbers() []float64 {
	plain := []float64{
		0, least, 0x1p-1073, 0x3p-1074, 0x1p-1022 - least, 0x1p-1022, 0x1p-1022 + least,
		0x1p-60, 0x1p-55, 0.1, 0.2, 0.25, 0.3, 0.5 - 0x1p-54, 0.5, 0.5 + 0x1p-53, 0.75,
		1 - 0x1p-53, 1, 1 + 0x1p-52, 1.5 - 0x1p-52, 1.5, 1.5 + 0x1p-52, 2, 2.5, 2.6, 3, 3.5, 4.5, 12, 1e10 + 0.5,
		0x1p51 + 0.5, 0x1p52 - 0.5, 0x1p52, 0x1p52 + 1, 0x1p53 - 1, 0x1p53, 0x1p53 + 2, 0x1p60, 1e300,
		0x1p960, 0x1p969, 0x1p970, 0x1p970 + 0x1p918, 0x1p971, 0x1p1022, 0x1p1023, greatest - 0x1p971, greatest, infinite,
	}
	l := plain
	for _, a := range plain {
		l = append(l, -a)
	}
	return l
}

func all() []float64 { return append(numbers(), nones()...) }

// spread are floats over the whole range of bits, the same at each run.
func spread(n int) []float64 {
	l := make([]float64, n)
	x := uint64(0x9e3779b97f4a7c15)
	for i := range l {
		x ^= x << 13
		x ^= x >> 7
		x ^= x << 17
		l[i] = math.Float64frombits(x)
	}
	return l
}

func many() []float64 { return append(all(), spread(20000)...) }

// same holds floats against each other without asking the package.
func same(a, b float64) bool {
	return math.IsNaN(a) && math.IsNaN(b) || math.Float64bits(a) == math.Float64bits(b)
}

func want(t *testing.T, what string, got, want float64) {
	t.Helper()
	if !same(got, want) {
		t.Errorf("%s: %x, not %x", what, got, want)
	}
}

// rank numbers all floats that are numbers by their worth, both noughts 0.
func rank(a float64) int64 {
	bits := int64(math.Float64bits(a) &^ (1 << 63))
	if math.Signbit(a) {
		return -bits
	}
	return bits
}

func exactly(a float64) *big.Float { return new(big.Float).SetPrec(4000).SetFloat64(a) }

func isFinite(a float64) bool { return !math.IsNaN(a) && !math.IsInf(a, 0) }

func isNumber(a float64) bool { return !math.IsNaN(a) }

func TestP1_1Same(t *testing.T) {
	l := many()[:400]
	for i, a := range l {
		for j, b := range l {
			alike := i == j || isNumber(a) == isNumber(b) && (!isNumber(a) || a == b && math.Signbit(a) == math.Signbit(b))
			if float.Same(a, b) != alike {
				t.Errorf("Same(%x, %x) is %v", a, b, !alike)
			}
		}
	}
}

func TestP1_1Finite(t *testing.T) {
	for _, a := range many() {
		if float.Finite(a) != isFinite(a) {
			t.Errorf("Finite(%x) is %v", a, !isFinite(a))
		}
	}
}

func TestP1_1Within(t *testing.T) {
	for _, c := range []struct {
		a, most float64
		is      bool
	}{
		{-3, 3, true}, {3, 3, true}, {3 + 0x1p-51, 3, false}, {-3 - 0x1p-51, 3, false}, {0, 3, true},
		{0, 0, true}, {minusNought, 0, true}, {0, minusNought, true}, {least, 0, false}, {-least, 0, false}, {least, least, true},
		{0, -1, false}, {-2, -1, false}, {-1, -1, false},
		{greatest, infinite, true}, {infinite, infinite, true}, {-infinite, infinite, true},
		{infinite, greatest, false}, {-infinite, greatest, false}, {0, -infinite, false}, {-infinite, -infinite, false},
	} {
		if float.Within(c.a, c.most) != c.is {
			t.Errorf("Within(%x, %x) is %v", c.a, c.most, !c.is)
		}
	}
	for _, none := range nones() {
		for _, b := range all() {
			if float.Within(none, b) || float.Within(b, none) {
				t.Errorf("Within is true of no number and %x", b)
			}
		}
	}
}

func TestP1_2Bits(t *testing.T) {
	for _, a := range nones() {
		if bits := float.Bits(a); bits != 0x7ff8000000000000 {
			t.Errorf("Bits of no number %x: %x", math.Float64bits(a), bits)
		}
	}
	for _, a := range many() {
		if isNumber(a) && float.Bits(a) != math.Float64bits(a) {
			t.Errorf("Bits(%x): %x", a, float.Bits(a))
		}
	}
}

func TestP1_2From(t *testing.T) {
	for _, c := range []struct {
		bits uint64
		a    float64
	}{
		{0, 0}, {1 << 63, minusNought}, {1, least}, {1<<63 | 1, -least}, {0x3ff0000000000000, 1}, {0xc008000000000000, -3},
		{0x7fefffffffffffff, greatest}, {0x7ff0000000000000, infinite}, {0xfff0000000000000, -infinite},
	} {
		want(t, "From", float.From(c.bits), c.a)
	}
	for _, none := range nones() {
		if a := float.From(math.Float64bits(none)); !math.IsNaN(a) {
			t.Errorf("From of bits of no number: %x", a)
		}
	}
}

func TestP1_3Neighbours(t *testing.T) {
	for _, c := range []struct{ a, up, down float64 }{
		{0, least, -least}, {minusNought, least, -least},
		{least, 0x1p-1073, 0}, {-least, minusNought, -0x1p-1073},
		{0x1p-1022, 0x1p-1022 + least, 0x1p-1022 - least},
		{1, 1 + 0x1p-52, 1 - 0x1p-53}, {-1, -1 + 0x1p-53, -1 - 0x1p-52},
		{greatest, infinite, greatest - 0x1p971}, {-greatest, -greatest + 0x1p971, -infinite},
		{infinite, infinite, greatest}, {-infinite, -greatest, -infinite},
	} {
		want(t, "Up", float.Up(c.a), c.up)
		want(t, "Down", float.Down(c.a), c.down)
	}
	for _, none := range nones() {
		want(t, "Up of no number", float.Up(none), math.NaN())
		want(t, "Down of no number", float.Down(none), math.NaN())
	}
}

func TestP1_4Scale(t *testing.T) {
	for _, c := range []struct {
		a float64
		n int
		x float64
	}{
		{3, 0, 3}, {3, 4, 48}, {3, -1, 1.5}, {-3, -1075, -0x1p-1073}, {1, -1074, least}, {1, -1075, 0}, {-1, -1075, minusNought},
		{1 + 0x1p-52, -1075, least}, {1.5, -1075, least}, {1.5, -1074, 0x1p-1073}, {2.5, -1074, 0x1p-1073}, {3.5, -1074, 0x1p-1072},
		// Rounded once: by way of a float of fewer bits these would come to another end.
		{1.5 - 0x1p-52, -1074, least}, {2.5 + 0x1p-51, -1074, 0x3p-1074}, {0.5 + 0x1p-53, -1074, least}, {-0.5 + 0x1p-54, -1074, minusNought},
		{1 + 0x3p-52, -1023, 0x1p-1023 + 0x1p-1073}, {1 + 0x5p-52, -1023, 0x1p-1023 + 0x1p-1073},
		{greatest, -2098, least}, {greatest, -2099, 0}, {-greatest, -2099, minusNought},
		{least, 1074, 1}, {least, 2097, 0x1p1023}, {least, 2098, infinite}, {-least, 2098, -infinite}, {greatest, 1, infinite},
		{1, 1023, 0x1p1023}, {1, 1024, infinite}, {-1, 1024, -infinite},
		{least, math.MaxInt, infinite}, {greatest, math.MaxInt, infinite}, {-greatest, math.MaxInt, -infinite}, {-least, math.MaxInt - 1, -infinite},
		{least, math.MinInt, 0}, {-least, math.MinInt, minusNought}, {greatest, math.MinInt, 0}, {-greatest, math.MinInt + 1, minusNought},
		{least, 1 << 32, infinite}, {greatest, -1 << 32, 0}, {least, 1<<32 + 1, infinite}, {-least, -1<<31 - 1, minusNought},
	} {
		want(t, "Scale", float.Scale(c.a, c.n), c.x)
	}
	powers := []int{0, 1, -1, 52, -53, 1023, 1024, -1021, -1022, -1074, -1075, 2097, 2098, -2098, -2099, 5000, -5000}
	for i, a := range many() {
		for _, n := range append(powers, i%4200-2100) {
			want(t, "Scale", float.Scale(a, n), scaled(a, n))
		}
	}
	for _, a := range []float64{0, minusNought, infinite, -infinite, math.NaN()} {
		for _, n := range []int{0, 1, -1, 3000, -3000, math.MaxInt, math.MinInt} {
			want(t, "Scale of what stays", float.Scale(a, n), a)
		}
	}
}

// scaled is a times 2^n by numbers of many digits, rounded once.
func scaled(a float64, n int) float64 {
	if !isFinite(a) {
		return a
	}
	x := exactly(a)
	near, _ := x.SetMantExp(x, n).Float64()
	return near
}

func TestP1_4Parts(t *testing.T) {
	for _, c := range []struct {
		a, m float64
		n    int
	}{
		{12, 0.75, 4}, {-12, -0.75, 4}, {1, 0.5, 1}, {0.5, 0.5, 0}, {1 - 0x1p-53, 1 - 0x1p-53, 0}, {least, 0.5, -1073}, {-0x3p-1074, -0.75, -1072},
		{greatest, 1 - 0x1p-53, 1024}, {0, 0, 0}, {minusNought, minusNought, 0}, {infinite, infinite, 0}, {-infinite, -infinite, 0},
	} {
		m, n := float.Parts(c.a)
		want(t, "Parts", m, c.m)
		if n != c.n {
			t.Errorf("Parts(%x): the power %d, not %d", c.a, n, c.n)
		}
	}
	for _, none := range nones() {
		if m, n := float.Parts(none); !math.IsNaN(m) || n != 0 {
			t.Errorf("Parts of no number: %x, %d", m, n)
		}
	}
	for _, a := range many() {
		if !isFinite(a) || a == 0 {
			continue
		}
		m, n := float.Parts(a)
		x := exactly(m)
		if math.Abs(m) < 0.5 || math.Abs(m) >= 1 || x.SetMantExp(x, n).Cmp(exactly(a)) != 0 {
			t.Errorf("Parts(%x): %x, %d", a, m, n)
		}
	}
}

func TestP1_5Minus(t *testing.T) {
	for _, a := range many() {
		if is := isNumber(a) && math.Signbit(a); float.Minus(a) != is {
			t.Errorf("Minus(%x) is %v", a, !is)
		}
	}
}

func TestP1_5Signed(t *testing.T) {
	l := many()[:400]
	for _, a := range l {
		for _, b := range l {
			x := math.Abs(a)
			if isNumber(b) && math.Signbit(b) {
				x = -x
			}
			want(t, "Signed", float.Signed(a, b), x)
		}
	}
}

func TestP1_6Sum(t *testing.T) {
	for _, c := range []struct {
		l []float64
		s float64
	}{
		{nil, 0}, {[]float64{}, 0}, {[]float64{3}, 3}, {[]float64{minusNought}, minusNought}, {[]float64{minusNought, minusNought}, minusNought},
		{[]float64{minusNought, 0}, 0}, {[]float64{0, minusNought}, 0}, {[]float64{1, 2, 3, 4}, 10},
		{[]float64{1, 0x1p53, -0x1p53}, 0}, {[]float64{0x1p53, -0x1p53, 1}, 1}, {[]float64{0x1p53, 1, 1, 1}, 0x1p53}, {[]float64{1, 1, 1, 0x1p53}, 0x1p53 + 4},
		{[]float64{greatest, greatest, -greatest}, infinite}, {[]float64{greatest, -greatest, greatest}, greatest}, {[]float64{-greatest, -0x1p970}, -infinite},
		{[]float64{infinite, -infinite}, math.NaN()}, {[]float64{math.NaN(), 1}, math.NaN()}, {[]float64{1, -infinite, 1}, -infinite}, {[]float64{infinite}, infinite},
		{[]float64{1, -1}, 0}, {[]float64{0.1, 0.2, 0.3}, 0.6000000000000001}, {[]float64{0.3, 0.2, 0.1}, 0.6},
	} {
		before := slices.Clone(c.l)
		want(t, "Sum", float.Sum(c.l...), c.s)
		if !slices.EqualFunc(before, c.l, same) {
			t.Errorf("Sum changed its list to %v", c.l)
		}
	}
	want(t, "Sum of none", float.Sum(), 0)
}

func TestP1_6Exact(t *testing.T) {
	for _, c := range []struct{ a, b, sum, lost float64 }{
		{1, 0x1p53, 0x1p53, 1}, {0x1p53, 1, 0x1p53, 1}, {-1, -0x1p53, -0x1p53, -1}, {0x1p53, 3, 0x1p53 + 4, -1}, {3, 0x1p53, 0x1p53 + 4, -1},
		{1, minusNought, 1, 0}, {minusNought, 1, 1, 0}, {0, minusNought, 0, 0}, {minusNought, minusNought, minusNought, 0}, {0, 0, 0, 0},
		{1, -1, 0, 0}, {-1, 1, 0, 0}, {-2, -3, -5, 0}, {-1, minusNought, -1, 0}, {0.1, 0.2, 0.30000000000000004, -0x1p-55},
		{1, least, 1, least}, {-1, least, -1, least}, {least, -least, 0, 0}, {least, least, 0x1p-1073, 0}, {greatest, least, greatest, least},
		{0x1p1023, 0x1p1023, infinite, 0}, {-0x1p1023, -0x1p1023, -infinite, 0}, {greatest, 0x1p970, infinite, 0}, {greatest, 0x1p969, greatest, 0x1p969},
		{greatest, -0x1p969, greatest, -0x1p969}, {greatest, -0x1p970, greatest - 0x1p971, 0x1p970}, {greatest, -greatest, 0, 0},
		{infinite, 1, infinite, 0}, {-1, -infinite, -infinite, 0}, {infinite, infinite, infinite, 0}, {infinite, -infinite, math.NaN(), 0},
		{math.NaN(), 1, math.NaN(), 0}, {1, math.NaN(), math.NaN(), 0}, {math.NaN(), infinite, math.NaN(), 0},
	} {
		sum, lost := float.Exact(c.a, c.b)
		want(t, "Exact, the sum", sum, c.sum)
		want(t, "Exact, the loss", lost, c.lost)
	}
	for _, none := range nones() {
		sum, lost := float.Exact(2, none)
		want(t, "Exact, the sum", sum, math.NaN())
		want(t, "Exact, the loss", lost, 0)
	}
}

// pairs calls f with all pairs of edges, and with pairs of floats that lie near enough to one another to lose something.
func pairs(f func(a, b float64)) {
	for _, a := range numbers() {
		for _, b := range numbers() {
			f(a, b)
		}
	}
	l := spread(20000)
	for i, a := range l {
		b := l[len(l)-1-i]
		if isFinite(a) && isFinite(b) {
			m, _ := math.Frexp(b)
			_, n := math.Frexp(a)
			f(a, b)
			f(a, math.Ldexp(m, n-i%120+60))
		}
	}
}

func TestP1_6ExactIsExact(t *testing.T) {
	pairs(func(a, b float64) {
		sum, lost := float.Exact(a, b)
		want(t, "Exact, the sum", sum, a+b)
		if lost == 0 && math.Signbit(lost) {
			t.Errorf("Exact(%x, %x) lost a minus nought", a, b)
		}
		if !isFinite(a + b) {
			want(t, "Exact, the loss beyond all floats", lost, 0)
			return
		}
		truth := exactly(a)
		truth.Add(truth, exactly(b))
		told := exactly(sum)
		if told.Add(told, exactly(lost)).Cmp(truth) != 0 {
			t.Errorf("Exact(%x, %x): %x and %x", a, b, sum, lost)
		}
	})
}

func TestP1_7Whole(t *testing.T) {
	for _, c := range []struct{ a, x float64 }{
		{2.5, 2}, {3.5, 4}, {-2.5, -2}, {-3.5, -4}, {0.5, 0}, {-0.5, minusNought}, {1.5, 2}, {-1.5, -2}, {0.25, 0}, {-0.25, minusNought},
		{0.5 - 0x1p-54, 0}, {0.5 + 0x1p-53, 1}, {-0.5 - 0x1p-53, -1}, {1.5 - 0x1p-52, 1}, {2.6, 3}, {-2.6, -3}, {2.4, 2},
		{0x1p52 - 0.5, 0x1p52}, {0x1p51 + 0.5, 0x1p51}, {0x1p51 + 1.5, 0x1p51 + 2}, {0x1p52 + 1, 0x1p52 + 1}, {0x1p53 - 1, 0x1p53 - 1},
		{0, 0}, {minusNought, minusNought}, {least, 0}, {-least, minusNought}, {greatest, greatest}, {-0x1p60, -0x1p60}, {infinite, infinite}, {-infinite, -infinite},
	} {
		want(t, "Whole", float.Whole(c.a), c.x)
	}
	for _, none := range nones() {
		want(t, "Whole of no number", float.Whole(none), math.NaN())
	}
	for i, a := range spread(20000) {
		m, _ := math.Frexp(a)
		a = math.Ldexp(m, i%60-3)
		if !isFinite(a) {
			continue
		}
		x := float.Whole(a)
		off := math.Abs(x - a)
		odd := math.Abs(x) < 0x1p53 && int64(x)%2 != 0
		if x != math.Trunc(x) || off > 0.5 || off == 0.5 && odd || math.Signbit(x) != math.Signbit(a) {
			t.Errorf("Whole(%x): %x", a, x)
		}
	}
}

func TestP1_8BackFromBits(t *testing.T) {
	for _, a := range many() {
		want(t, "From of Bits", float.From(float.Bits(a)), a)
	}
}

func TestP1_8NothingBetween(t *testing.T) {
	for _, a := range many() {
		if !isNumber(a) {
			continue
		}
		if up := float.Up(a); a < infinite && (!(up > a) || rank(up) != rank(a)+1) {
			t.Errorf("Up(%x): %x", a, up)
		}
		if down := float.Down(a); a > -infinite && (!(down < a) || rank(down) != rank(a)-1) {
			t.Errorf("Down(%x): %x", a, down)
		}
		if isFinite(a) && isFinite(float.Up(a)) && float.Down(float.Up(a)) != a {
			t.Errorf("Down of Up of %x: %x", a, float.Down(float.Up(a)))
		}
	}
}

func TestP1_8BackFromParts(t *testing.T) {
	for _, a := range many() {
		m, n := float.Parts(a)
		want(t, "Scale of Parts", float.Scale(m, n), a)
	}
}

func TestP1_8SignsTurned(t *testing.T) {
	for i, a := range many() {
		n := i%4200 - 2100
		want(t, "Up with the sign turned", float.Up(-a), -float.Down(a))
		want(t, "Down with the sign turned", float.Down(-a), -float.Up(a))
		want(t, "Scale with the sign turned", float.Scale(-a, n), -float.Scale(a, n))
		want(t, "Whole with the sign turned", float.Whole(-a), -float.Whole(a))
	}
	pairs(func(a, b float64) {
		sum, lost := float.Exact(a, b)
		turned, loss := float.Exact(-a, -b)
		if sum != 0 || same(a, b) { // where two numbers cancel, a + b is +0 with the signs turned too
			want(t, "Exact with the signs turned", turned, -sum)
		}
		if loss != -lost {
			t.Errorf("Exact(%x, %x) lost %x, with the signs turned %x", a, b, lost, loss)
		}
	})
}

func TestP1_8HalfAUnit(t *testing.T) {
	pairs(func(a, b float64) {
		sum, lost := float.Exact(a, b)
		if !isFinite(sum) {
			return
		}
		truth := exactly(a)
		truth.Add(truth, exactly(b)).Abs(truth)
		floor, _ := new(big.Float).SetPrec(53).SetMode(big.ToZero).Set(truth).Float64()
		unit := math.Nextafter(floor, infinite) - floor
		if floor == greatest {
			unit = 0x1p971
		}
		if 2*math.Abs(lost) > unit {
			t.Errorf("Exact(%x, %x) lost %x", a, b, lost)
		}
	})
}

func TestTableOfExamples(t *testing.T) {
	none, other := math.NaN(), math.Float64frombits(0xfff8000000000001)
	for i, c := range []struct{ got, want bool }{
		{float.Same(0, minusNought), false}, {float.Same(none, other), true}, {float.Finite(0x1p1023), true},
		{float.Within(-3, 3), true}, {float.Within(none, infinite), false}, {float.Within(1, none), false},
		{float.Minus(minusNought), true}, {float.Minus(other), false},
	} {
		if c.got != c.want {
			t.Errorf("example %d is %v", i, c.got)
		}
	}
	if float.Bits(none) != 0x7ff8000000000000 || float.Bits(minusNought) != 0x8000000000000000 {
		t.Error("Bits")
	}
	want(t, "From(1)", float.From(1), least)
	want(t, "Up(0)", float.Up(0), least)
	want(t, "Up(-0)", float.Up(minusNought), least)
	want(t, "Up(-2^-1074)", float.Up(-least), minusNought)
	want(t, "Up(the greatest finite)", float.Up(greatest), infinite)
	want(t, "Up(infinite)", float.Up(infinite), infinite)
	want(t, "Down(1)", float.Down(1), 1-0x1p-53)
	want(t, "Scale(3, -1075)", float.Scale(3, -1075), 0x1p-1073)
	want(t, "Scale(1, 1024)", float.Scale(1, 1024), infinite)
	want(t, "Scale(-1, -2000)", float.Scale(-1, -2000), minusNought)
	for _, c := range []struct {
		a, m float64
		n    int
	}{{12, 0.75, 4}, {least, 0.5, -1073}, {minusNought, minusNought, 0}} {
		if m, n := float.Parts(c.a); !same(m, c.m) || n != c.n {
			t.Errorf("Parts(%x): %x, %d", c.a, m, n)
		}
	}
	want(t, "Signed(3, -0)", float.Signed(3, minusNought), -3)
	want(t, "Signed(-3, no number)", float.Signed(-3, none), 3)
	want(t, "Sum()", float.Sum(), 0)
	want(t, "Sum(1, 2^53, -2^53)", float.Sum(1, 0x1p53, -0x1p53), 0)
	for _, c := range [][4]float64{{1, 0x1p53, 0x1p53, 1}, {0x1p1023, 0x1p1023, infinite, 0}, {1, minusNought, 1, 0}} {
		sum, lost := float.Exact(c[0], c[1])
		want(t, "Exact, the sum", sum, c[2])
		want(t, "Exact, the loss", lost, c[3])
	}
	want(t, "Whole(2.5)", float.Whole(2.5), 2)
	want(t, "Whole(-0.5)", float.Whole(-0.5), minusNought)
	want(t, "Whole(3.5)", float.Whole(3.5), 4)
}
