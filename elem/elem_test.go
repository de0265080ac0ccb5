package elem_test

import (
	"math"
	"testing"

	"eddy/elem"
)

const (
	least    = 0x1p-1074
	greatest = math.MaxFloat64
)

var (
	minusNought = math.Copysign(0, -1)
	infinite    = math.Inf(1)
	none        = math.NaN()
)

// The chapter's four floats.
var (
	high = math.Float64frombits(0x3fe62e42fee00000)
	low  = math.Float64frombits(0x3dea39ef35793c76)
	per  = math.Float64frombits(0x3ff71547652b82fe)
	root = math.Float64frombits(0x3fe6a09e667f3bcd)
)

type function struct {
	name string
	call func(float64) float64
}

func functions() []function {
	return []function{{"Exp", elem.Exp}, {"Log", elem.Log}, {"Less", elem.Less}, {"More", elem.More}, {"Cosh", elem.Cosh}, {"Sinh", elem.Sinh}}
}

// nones are bit rows of no number: quiet and signalling ones, of either sign.
func nones() []float64 {
	var l []float64
	for _, bits := range []uint64{0x7ff8000000000000, 0x7ff8000000000001, 0x7ff0000000000001, 0x7fffffffffffffff} {
		l = append(l, math.Float64frombits(bits), math.Float64frombits(bits|1<<63))
	}
	return l
}

func up(x float64) float64   { return math.Nextafter(x, infinite) }
func down(x float64) float64 { return math.Nextafter(x, -infinite) }

// about is x with its neighbours, three on either side.
func about(x float64) []float64 {
	l := []float64{x}
	below, above := x, x
	for range 3 {
		below, above = down(below), up(above)
		l = append(l, below, above)
	}
	return l
}

// turns are the places at which a function's steps change, with their neighbours and with either sign.
func turns() []float64 {
	var l []float64
	for _, x := range []float64{0, 1, 2, 0.5, 0.25, 0.375, 20, 37, 709, 709.78, 709.782712893384, 709.79, 710.4758600739439, 708.3964185322641, 745.13, 745.1332191019411, 745.14, 750, 1e10, 1e300, least, 0x1p-1022, 0x1p-600, 0x1p-54, 0x1p-27, root, 2 * root, greatest} {
		for _, y := range about(x) {
			l = append(l, y, -y)
		}
	}
	for i := range 2160 {
		for _, y := range about((float64(i) - 1079.5) * math.Ln2) {
			l = append(l, y)
		}
	}
	return l
}

// scaled are floats next to powers of two, and to R times these.
func scaled() []float64 {
	var l []float64
	for e := -1074; e <= 1023; e++ {
		for _, x := range about(math.Ldexp(1, e)) {
			l = append(l, x)
		}
		for _, x := range about(math.Ldexp(root, e)) {
			l = append(l, x)
		}
	}
	return l
}

// dice tells words, the same ones at each run.
type dice uint64

func newDice() *dice {
	d := dice(0x9e3779b97f4a7c15)
	return &d
}

func (d *dice) word() uint64 {
	x := *d
	x ^= x << 13
	x ^= x >> 7
	x ^= x << 17
	*d = x
	return uint64(x)
}

// between is a float from low to high.
func (d *dice) between(low, high float64) float64 {
	return low + (high-low)*float64(d.word()>>11)*0x1p-53
}

// many are the edges, then rounds of floats of the ordinary range, small ones, any bits.
func many(rounds int) []float64 {
	l := append(turns(), scaled()...)
	l = append(append(l, nones()...), infinite, -infinite, minusNought)
	d := newDice()
	for range rounds {
		l = append(l, d.between(-750, 715), d.between(-3, 3), d.between(-0.5, 0.5), math.Ldexp(d.between(-1, 1), -int(d.word()%1100)), math.Float64frombits(d.word()))
	}
	return l
}

func same(a, b float64) bool {
	return math.IsNaN(a) && math.IsNaN(b) || math.Float64bits(a) == math.Float64bits(b)
}

func want(t *testing.T, what string, x, got, want float64) {
	t.Helper()
	if !same(got, want) {
		t.Errorf("%s of %x: %x, not %x", what, x, got, want)
	}
}

// The operations as calls that are not inlined: none of them can be fused with another one.

//go:noinline
func plus(x, y float64) float64 { return x + y }

//go:noinline
func minus(x, y float64) float64 { return x - y }

//go:noinline
func times(x, y float64) float64 { return x * y }

//go:noinline
func over(x, y float64) float64 { return x / y }

// foldsOf and the functions below are the chapter's words, one operation a call.
func foldsOf(x float64) float64 { return math.RoundToEven(times(x, per)) }

func risingSum(r float64, j int) float64 {
	t := 1.0
	for k := 13; k >= j; k-- {
		t = plus(1, over(times(r, t), float64(k)))
	}
	return t
}

func oddSum(f float64) float64 {
	s := times(f, f)
	q := over(1, 25)
	for k := 23; k >= 3; k -= 2 {
		q = plus(over(1, float64(k)), times(s, q))
	}
	a := times(2, f)
	return plus(a, times(a, times(s, q)))
}

func stepsOfExp(x float64) float64 {
	switch {
	case math.IsNaN(x):
		return none
	case x > 709.79:
		return infinite
	case x < -745.14:
		return 0
	}
	n := foldsOf(x)
	r := minus(minus(x, times(n, high)), times(n, low))
	return math.Ldexp(risingSum(r, 1), int(n))
}

func stepsOfLog(x float64) float64 {
	switch {
	case math.IsNaN(x) || x < 0:
		return none
	case x == 0:
		return -infinite
	case x > greatest:
		return infinite
	}
	m, e := math.Frexp(x)
	if m < root {
		m, e = m*2, e-1
	}
	f := over(minus(m, 1), plus(m, 1))
	return plus(times(float64(e), high), plus(times(float64(e), low), oddSum(f)))
}

func stepsOfLess(x float64) float64 {
	switch {
	case math.IsNaN(x):
		return none
	case x > 709.79:
		return infinite
	case foldsOf(x) == 0:
		return times(x, risingSum(x, 2))
	}
	return minus(stepsOfExp(x), 1)
}

func stepsOfMore(x float64) float64 {
	switch {
	case math.IsNaN(x) || x < -1:
		return none
	case x == -1:
		return -infinite
	case x > greatest:
		return infinite
	case x >= -0.25 && x <= 0.375:
		return oddSum(over(x, plus(2, x)))
	}
	return stepsOfLog(plus(1, x))
}

func stepsOfCosh(x float64) float64 { return times(plus(stepsOfExp(x), stepsOfExp(-x)), 0.5) }

func stepsOfSinh(x float64) float64 {
	e := stepsOfLess(math.Abs(x))
	if e <= greatest {
		e = times(plus(e, over(e, plus(e, 1))), 0.5)
	}
	return math.Copysign(e, x)
}

func bySteps(t *testing.T, name string, call, steps func(float64) float64) {
	t.Helper()
	for _, x := range many(20000) {
		want(t, name, x, call(x), steps(x))
	}
}

func TestP4_1Exp(t *testing.T) { bySteps(t, "Exp", elem.Exp, stepsOfExp) }

func TestP4_2Log(t *testing.T) { bySteps(t, "Log", elem.Log, stepsOfLog) }

func TestP4_3Less(t *testing.T) { bySteps(t, "Less", elem.Less, stepsOfLess) }

func TestP4_4More(t *testing.T) { bySteps(t, "More", elem.More, stepsOfMore) }

func TestP4_5Cosh(t *testing.T) { bySteps(t, "Cosh", elem.Cosh, stepsOfCosh) }

func TestP4_5Sinh(t *testing.T) { bySteps(t, "Sinh", elem.Sinh, stepsOfSinh) }

func TestP4_5Two(t *testing.T) {
	a, b := elem.Two()
	want(t, "the first of Two", 0, a, high)
	want(t, "the second of Two", 0, b, low)
}

func TestNoNumber(t *testing.T) {
	for _, f := range functions() {
		for _, x := range nones() {
			want(t, f.name, x, f.call(x), none)
		}
	}
}

// TestBits holds bits that were worked out apart from this program, by the same steps.
func TestBits(t *testing.T) {
	for _, c := range []struct {
		call    func(float64) float64
		name    string
		x, bits uint64
	}{
		{elem.Exp, "Exp", 0x3ff0000000000000, 0x4005bf0a8b14576a},
		{elem.Exp, "Exp", 0xbff0000000000000, 0x3fd78b56362cef38},
		{elem.Exp, "Exp", 0x3fb999999999999a, 0x3ff1aec7b35a00d4},
		{elem.Exp, "Exp", 0x3fd62e42fefa39ef, 0x3ff6a09e667f3bcc},
		{elem.Exp, "Exp", 0x3fd62e42fefa39f0, 0x3ff6a09e667f3bcd},
		{elem.Exp, "Exp", 0xbfd62e42fefa39ef, 0x3fe6a09e667f3bcc},
		{elem.Exp, "Exp", 0x4024000000000000, 0x40d5829dcf950560},
		{elem.Exp, "Exp", 0xc034000000000000, 0x3e21b48655f37267},
		{elem.Exp, "Exp", 0x4059133333333333, 0x48fa08a5754ae034},
		{elem.Exp, "Exp", 0x4085e00000000000, 0x7f0d945df4f8ec8e},
		{elem.Exp, "Exp", 0xc086240000000000, 0x000e6cf6d08897ac},
		{elem.Exp, "Exp", 0xc087480000000000, 0x0000000000000001},
		{elem.Exp, "Exp", 0xc087220000000000, 0x0000000000000042},
		{elem.Exp, "Exp", 0x40862e3d70a3d70a, 0x7fefe9ce5c4c52b4},
		{elem.Exp, "Exp", 0x40862e42fefa39ef, 0x7fefffffffffff2a},
		{elem.Exp, "Exp", 0xbff0a2b23f3bab73, 0x3fd6a09e667f3bcd},
		{elem.Exp, "Exp", 0x3ddb7cdfd9d7bdbb, 0x3ff000000006df38},
		{elem.Exp, "Exp", 0x0000000000000001, 0x3ff0000000000000},
		{elem.Log, "Log", 0x4008000000000000, 0x3ff193ea7aad030b},
		{elem.Log, "Log", 0x4024000000000000, 0x40026bb1bbb55516},
		{elem.Log, "Log", 0x3fb999999999999a, 0xc0026bb1bbb55515},
		{elem.Log, "Log", 0x3ff0000000000001, 0x3cb0000000000000},
		{elem.Log, "Log", 0x3fefffffffffffff, 0xbca0000000000000},
		{elem.Log, "Log", 0x3fe6a09e667f3bcd, 0xbfd62e42fefa39ee},
		{elem.Log, "Log", 0x3fe6a09e667f3bcc, 0xbfd62e42fefa39f1},
		{elem.Log, "Log", 0x3fe6a09e667f3bce, 0xbfd62e42fefa39eb},
		{elem.Log, "Log", 0x3ff6a09e667f3bcd, 0x3fd62e42fefa39f0},
		{elem.Log, "Log", 0x0000000000000001, 0xc0874385446d71c3},
		{elem.Log, "Log", 0x0000000000000bdc, 0xc087035fcbfb4d3a},
		{elem.Log, "Log", 0x7fefffffffffffff, 0x40862e42fefa39ef},
		{elem.Log, "Log", 0x0010000000000000, 0xc086232bdd7abcd2},
		{elem.Log, "Log", 0x7e37e43c8800759c, 0x4085963447f87fb5},
		{elem.Log, "Log", 0x3fe8000000000000, 0xbfd269621134db92},
		{elem.Log, "Log", 0x3ff6a09e667f3bcd, 0x3fd62e42fefa39f0},
		{elem.Less, "Less", 0x3ff0000000000000, 0x3ffb7e151628aed4},
		{elem.Less, "Less", 0xbff0000000000000, 0xbfe43a54e4e98864},
		{elem.Less, "Less", 0x3fb999999999999a, 0x3fbaec7b35a00d3a},
		{elem.Less, "Less", 0xbfb999999999999a, 0xbfb85c933156a62c},
		{elem.Less, "Less", 0x3fd62e42fefa39ef, 0x3fda827999fcef32},
		{elem.Less, "Less", 0x3fd62e42fefa39f0, 0x3fda827999fcef34},
		{elem.Less, "Less", 0xbfd62e42fefa39ef, 0xbfd2bec333018867},
		{elem.Less, "Less", 0xbfd62e42fefa39f0, 0xbfd2bec333018868},
		{elem.Less, "Less", 0x4034000000000000, 0x41bceb088a68e804},
		{elem.Less, "Less", 0xc044000000000000, 0xbff0000000000000},
		{elem.Less, "Less", 0x3ddb7cdfd9d7bdbb, 0x3ddb7cdfd9dda4e3},
		{elem.Less, "Less", 0x0000000000000001, 0x0000000000000001},
		{elem.Less, "Less", 0x4085e00000000000, 0x7f0d945df4f8ec8e},
		{elem.More, "More", 0x3ff0000000000000, 0x3fe62e42fefa39ef},
		{elem.More, "More", 0xbfe0000000000000, 0xbfe62e42fefa39ef},
		{elem.More, "More", 0xbfd0000000000000, 0xbfd269621134db92},
		{elem.More, "More", 0xbfd0000000000001, 0xbfd269621134db92},
		{elem.More, "More", 0xbfcfffffffffffff, 0xbfd269621134db92},
		{elem.More, "More", 0x3fd8000000000000, 0x3fd4618bc21c5ec2},
		{elem.More, "More", 0x3fd8000000000001, 0x3fd4618bc21c5ec2},
		{elem.More, "More", 0x3fd7ffffffffffff, 0x3fd4618bc21c5ec1},
		{elem.More, "More", 0x3ddb7cdfd9d7bdbb, 0x3ddb7cdfd9d1d693},
		{elem.More, "More", 0xbddb7cdfd9d7bdbb, 0xbddb7cdfd9dda4e3},
		{elem.More, "More", 0x0000000000000001, 0x0000000000000000},
		{elem.More, "More", 0x0000000000000003, 0x0000000000000004},
		{elem.More, "More", 0x7e37e43c8800759c, 0x4085963447f87fb5},
		{elem.More, "More", 0xbfefffffffffffff, 0xc0425e4f7b2737fa},
		{elem.More, "More", 0x3fb999999999999a, 0x3fb8663f793c46c6},
		{elem.More, "More", 0xbfb999999999999a, 0xbfbaf8e8210a415e},
		{elem.Cosh, "Cosh", 0x3ff0000000000000, 0x3ff8b07551d9f551},
		{elem.Cosh, "Cosh", 0x3fd0000000000000, 0x3ff080ab05ca6146},
		{elem.Cosh, "Cosh", 0xc014000000000000, 0x40528d6fcbeff3aa},
		{elem.Cosh, "Cosh", 0x4085e00000000000, 0x7efd945df4f8ec8e},
		{elem.Cosh, "Cosh", 0x3ee4f8b588e368f1, 0x3ff0000000036f9c},
		{elem.Cosh, "Cosh", 0x4034000000000000, 0x41aceb088b68e804},
		{elem.Cosh, "Cosh", 0x40862e3d70a3d70a, 0x7fdfe9ce5c4c52b4},
		{elem.Sinh, "Sinh", 0x3ff0000000000000, 0x3ff2cd9fc44eb983},
		{elem.Sinh, "Sinh", 0x3fd0000000000000, 0x3fd02accd9d08102},
		{elem.Sinh, "Sinh", 0xc014000000000000, 0xc0528d0166f07374},
		{elem.Sinh, "Sinh", 0x4085e00000000000, 0x7efd945df4f8ec8e},
		{elem.Sinh, "Sinh", 0x3ee4f8b588e368f1, 0x3ee4f8b588e4e940},
		{elem.Sinh, "Sinh", 0x4034000000000000, 0x41aceb088b68e804},
		{elem.Sinh, "Sinh", 0x40862e3d70a3d70a, 0x7fdfe9ce5c4c52b4},
		{elem.Sinh, "Sinh", 0x8000000000000003, 0x8000000000000003},
		{elem.Sinh, "Sinh", 0x3fd3333333333333, 0x3fd37d42af54b926},
		// Here the innermost term of the odd sum, 1 / 25, decides the last bit.
		{elem.Log, "Log", 0x3fe6a09e6838a52a, 0xbfd62e42fa19b9cf},
		{elem.Log, "Log", 0x3fe6a09e68ea15cb, 0xbfd62e42f823d98f},
		{elem.Log, "Log", 0x3fe6a09e734f2f2f, 0xbfd62e42dabd1ff7},
		{elem.Log, "Log", 0x3fe6a09e78cdb2fd, 0xbfd62e42cb32e678},
		{elem.Log, "Log", 0x3fe6a0a1c7380585, 0xbfd62e39712d7477},
		// Here the rounding of n * L decides the last bit.
		{elem.Exp, "Exp", 0x40813df5caf3ee57, 0x71affedb02eaa17d},
	} {
		x := math.Float64frombits(c.x)
		want(t, c.name, x, c.call(x), math.Float64frombits(c.bits))
	}
}

func TestP4_1ExpAtEdges(t *testing.T) {
	for _, c := range []struct{ x, want float64 }{
		{infinite, infinite}, {-infinite, 0}, {0, 1}, {minusNought, 1},
		{709.79, infinite}, {up(709.79), infinite}, {down(709.79), infinite}, {greatest, infinite},
		{-745.14, 0}, {up(-745.14), 0}, {down(-745.14), 0}, {-greatest, 0},
		{-745.13, least}, {-745, least}, {least, 1}, {-least, 1},
	} {
		want(t, "Exp", c.x, elem.Exp(c.x), c.want)
	}
	if e := elem.Exp(709.78); e > greatest {
		t.Error("Exp of 709.78 is infinite")
	}
}

func TestP4_2LogAtEdges(t *testing.T) {
	for _, c := range []struct{ x, want float64 }{
		{infinite, infinite}, {-infinite, none}, {0, -infinite}, {minusNought, -infinite},
		{-least, none}, {-1, none}, {-greatest, none}, {1, 0},
		{up(1), 0x1p-52}, {down(1), -0x1p-53},
	} {
		want(t, "Log", c.x, elem.Log(c.x), c.want)
	}
	// At R and above it e stays; below it m is doubled.
	f := over(minus(root, 1), plus(root, 1))
	want(t, "Log", root, elem.Log(root), oddSum(f))
	m := 2 * down(root)
	f = over(minus(m, 1), plus(m, 1))
	want(t, "Log", down(root), elem.Log(down(root)), plus(-high, plus(-low, oddSum(f))))
}

// lastUnfolded is the greatest float whose n is nought.
func lastUnfolded() float64 {
	x := 0.3465735902799726
	for foldsOf(x) == 0 {
		x = up(x)
	}
	for foldsOf(x) != 0 {
		x = down(x)
	}
	return x
}

func TestP4_3LessWhereFoldsBegin(t *testing.T) {
	for _, c := range []struct{ x, want float64 }{
		{infinite, infinite}, {-infinite, -1}, {0, 0}, {minusNought, minusNought},
		{709.79, infinite}, {up(709.79), infinite}, {greatest, infinite}, {-greatest, -1}, {-50, -1},
		{least, least}, {-least, -least},
	} {
		want(t, "Less", c.x, elem.Less(c.x), c.want)
	}
	last := lastUnfolded()
	for _, x := range []float64{last, -last} {
		next := math.Nextafter(x, 10*x)
		if foldsOf(x) != 0 || foldsOf(next) == 0 {
			t.Fatal("no turn at", x)
		}
		want(t, "Less", x, elem.Less(x), times(x, risingSum(x, 2)))
		want(t, "Less", next, elem.Less(next), minus(elem.Exp(next), 1))
	}
}

// TestP4_3LessBothWays makes sure that the two ways differ about the turn, so that the test above tells them apart.
func TestP4_3LessBothWays(t *testing.T) {
	differ, last := 0, lastUnfolded()
	for _, x := range append(about(last), about(-last)...) {
		if times(x, risingSum(x, 2)) != minus(stepsOfExp(x), 1) {
			differ++
		}
	}
	if differ == 0 {
		t.Error("both ways of Less are alike about its turn")
	}
}

func TestP4_4MoreAtEdges(t *testing.T) {
	for _, c := range []struct{ x, want float64 }{
		{infinite, infinite}, {-infinite, none}, {0, 0}, {minusNought, minusNought},
		{-1, -infinite}, {down(-1), none}, {-2, none}, {-greatest, none},
		{up(-1), elem.Log(0x1p-53)},
	} {
		want(t, "More", c.x, elem.More(c.x), c.want)
	}
	for _, x := range []float64{-0.25, up(-0.25), 0.375, down(0.375)} {
		want(t, "More", x, elem.More(x), oddSum(over(x, plus(2, x))))
	}
	for _, x := range []float64{down(-0.25), up(0.375)} {
		want(t, "More", x, elem.More(x), elem.Log(plus(1, x)))
	}
}

func TestP4_5CoshAndSinhAtEdges(t *testing.T) {
	for _, c := range []struct{ x, cosh, sinh float64 }{
		{0, 1, 0}, {minusNought, 1, minusNought}, {infinite, infinite, infinite}, {-infinite, infinite, -infinite},
		{800, infinite, infinite}, {-800, infinite, -infinite}, {709.79, infinite, infinite}, {-709.79, infinite, -infinite},
		{greatest, infinite, infinite}, {least, 1, least}, {-least, 1, -least},
	} {
		want(t, "Cosh", c.x, elem.Cosh(c.x), c.cosh)
		want(t, "Sinh", c.x, elem.Sinh(c.x), c.sinh)
	}
	last := lastFinite()
	for _, x := range about(last) {
		finite := x <= last
		for _, x := range []float64{x, -x} {
			if (elem.Cosh(x) <= greatest) != finite || (math.Abs(elem.Sinh(x)) <= greatest) != finite {
				t.Errorf("Cosh and Sinh of %x: %x, %x", x, elem.Cosh(x), elem.Sinh(x))
			}
		}
	}
}

// lastFinite is the greatest float whose exponential is finite.
func lastFinite() float64 {
	x := 709.782712893
	for elem.Exp(up(x)) <= greatest {
		x = up(x)
	}
	return x
}

func TestP4_7Noughts(t *testing.T) {
	for _, x := range []float64{0, minusNought} {
		want(t, "Exp", x, elem.Exp(x), 1)
		want(t, "Less", x, elem.Less(x), x)
		want(t, "More", x, elem.More(x), x)
		want(t, "Sinh", x, elem.Sinh(x), x)
	}
}

func TestP4_7PowersOfTwo(t *testing.T) {
	for n := -1074; n <= 1023; n++ {
		x := math.Ldexp(1, n)
		want(t, "Log", x, elem.Log(x), plus(times(float64(n), high), times(float64(n), low)))
	}
}

func TestP4_7Rules(t *testing.T) {
	for _, x := range many(20000) {
		want(t, "Cosh of -x", x, elem.Cosh(-x), elem.Cosh(x))
		want(t, "Sinh of -x", x, elem.Sinh(-x), -elem.Sinh(x))
		if e := elem.Exp(x); !math.IsNaN(x) && !(e >= 0) || math.Signbit(e) && !math.IsNaN(e) {
			t.Errorf("Exp of %x: %x", x, e)
		}
		if l := elem.Log(x); x > 0 && x <= greatest && !(math.Abs(l) <= greatest) {
			t.Errorf("Log of %x: %x", x, l)
		}
	}
}

func TestExamples(t *testing.T) {
	for _, c := range []struct {
		name      string
		got, want float64
	}{
		{"Exp(0)", elem.Exp(0), 1}, {"Exp(-0)", elem.Exp(minusNought), 1}, {"Exp(710)", elem.Exp(710), infinite},
		{"Exp(-746)", elem.Exp(-746), 0}, {"Exp(minus infinity)", elem.Exp(-infinite), 0}, {"Exp(no number)", elem.Exp(none), none},
		{"Log(1)", elem.Log(1), 0}, {"Log(0)", elem.Log(0), -infinite}, {"Log(-0)", elem.Log(minusNought), -infinite},
		{"Log(-1)", elem.Log(-1), none}, {"Log(2)", elem.Log(2), high + low}, {"Log(0.5)", elem.Log(0.5), -high + -low},
		{"Less(0)", elem.Less(0), 0}, {"Less(-0)", elem.Less(minusNought), minusNought}, {"Less(minus infinity)", elem.Less(-infinite), -1},
		{"More(-0)", elem.More(minusNought), minusNought}, {"More(-1)", elem.More(-1), -infinite}, {"More(-2)", elem.More(-2), none},
		{"Cosh(0)", elem.Cosh(0), 1}, {"Sinh(-0)", elem.Sinh(minusNought), minusNought},
		{"Sinh(minus infinity)", elem.Sinh(-infinite), -infinite}, {"Cosh(minus infinity)", elem.Cosh(-infinite), infinite},
	} {
		if !same(c.got, c.want) {
			t.Errorf("%s: %x, not %x", c.name, c.got, c.want)
		}
	}
}
