package gauss_test

import (
	"math"
	"math/big"
	"slices"
	"strings"
	"testing"

	"eddy/api"
	"eddy/gauss"
)

const (
	least    = 0x1p-1074
	greatest = math.MaxFloat64
)

var (
	minusNought = math.Copysign(0, -1)
	infinite    = math.Inf(1)
	none        = math.NaN()
)

// dice tells words, the same ones at each run.
type dice uint64

func newDice() *dice {
	d := dice(0x9e3779b97f4a7c15)
	return &d
}

func (d *dice) word() uint64 {
	x := *d
	x ^= x << 13
	x ^= x >> 7
	x ^= x << 17
	*d = x
	return uint64(x)
}

func (d *dice) below(n int) int { return int(d.word() % uint64(n)) }

// float is any finite one.
func (d *dice) float() float64 {
	for {
		if x := math.Float64frombits(d.word()); !math.IsNaN(x) && !math.IsInf(x, 0) {
			return x
		}
	}
}

// fraction is one of up to that many words above and below; small ones come up often, so that much can be cancelled.
func (d *dice) fraction(most int) *big.Rat {
	part := func() *big.Int {
		n := new(big.Int)
		for range 1 + d.below(most) {
			n.Lsh(n, 64).Or(n, new(big.Int).SetUint64(d.word()))
		}
		if d.below(2) == 0 {
			n.Rsh(n, uint(n.BitLen()-d.below(6)))
		}
		return n
	}
	top, bottom := part(), part()
	if bottom.Sign() == 0 {
		bottom.SetInt64(1)
	}
	if d.below(2) == 0 {
		top.Neg(top)
	}
	return new(big.Rat).SetFrac(top, bottom)
}

func (d *dice) exact(most int) api.Exact {
	return api.Exact{Re: ratio(d.fraction(most)), Im: ratio(d.fraction(most))}
}

func ratio(r *big.Rat) api.Ratio { return api.Ratio{Num: r.Num().String(), Den: r.Denom().String()} }

func rational(a api.Ratio) *big.Rat {
	r, ok := new(big.Rat).SetString(a.Num + "/" + a.Den)
	if !ok {
		panic("no fraction: " + a.Num + "/" + a.Den)
	}
	return r
}

// pair is an exact number in the library's numbers: what the package is held against.
type pair struct{ re, im *big.Rat }

func pairOf(a api.Exact) pair { return pair{rational(a.Re), rational(a.Im)} }

func (a pair) exact() api.Exact { return api.Exact{Re: ratio(a.re), Im: ratio(a.im)} }

func (a pair) add(b pair) pair {
	return pair{new(big.Rat).Add(a.re, b.re), new(big.Rat).Add(a.im, b.im)}
}

func (a pair) sub(b pair) pair {
	return pair{new(big.Rat).Sub(a.re, b.re), new(big.Rat).Sub(a.im, b.im)}
}

func (a pair) mul(b pair) pair {
	x, y := new(big.Rat).Mul(a.re, b.re), new(big.Rat).Mul(a.im, b.im)
	z, w := new(big.Rat).Mul(a.re, b.im), new(big.Rat).Mul(a.im, b.re)
	return pair{x.Sub(x, y), z.Add(z, w)}
}

func (a pair) norm() *big.Rat {
	x, y := new(big.Rat).Mul(a.re, a.re), new(big.Rat).Mul(a.im, a.im)
	return x.Add(x, y)
}

func (a pair) div(b pair) pair {
	p, n := a.mul(pair{b.re, new(big.Rat).Neg(b.im)}), b.norm()
	return pair{p.re.Quo(p.re, n), p.im.Quo(p.im, n)}
}

func q(num, den string) api.Ratio { return api.Ratio{Num: num, Den: den} }

func x(a, b, c, d string) api.Exact { return api.Exact{Re: q(a, b), Im: q(c, d)} }

// tens is 10 to the power of n; it has n + 1 digits.
func tens(n int) string { return "1" + strings.Repeat("0", n) }

func nines(n int) string { return strings.Repeat("9", n) }

// asked hands a to every call that takes exact numbers, at each place, beside a number that may be, and tells their errors and whether all else was zero.
func asked(a api.Exact) (errors []api.Errno, zero bool) {
	one := gauss.Whole(1, 2)
	zero = true
	note := func(is bool, e api.Errno) {
		errors = append(errors, e)
		zero = zero && is
	}
	note(true, gauss.Check(a))
	v, e := gauss.Near(a)
	note(v == 0, e)
	c, e := gauss.Conj(a)
	note(c == api.Exact{}, e)
	r, e := gauss.Norm(a)
	note(r == api.Ratio{}, e)
	for _, f := range []func(a, b api.Exact) (api.Exact, api.Errno){gauss.Add, gauss.Sub, gauss.Mul, gauss.Div} {
		s, e := f(a, one)
		note(s == api.Exact{}, e)
		s, e = f(one, a)
		note(s == api.Exact{}, e)
		s, e = f(a, gauss.Whole(0, 0))
		note(s == api.Exact{}, e)
	}
	is, e := gauss.Same(a, one)
	note(!is, e)
	is, e = gauss.Same(one, a)
	note(!is, e)
	is, e = gauss.Same(a, a)
	note(!is, e)
	return errors, zero
}

func TestP3_1Check(t *testing.T) {
	full, more := nines(api.MaxDigits), nines(api.MaxDigits+1)
	for a, want := range map[api.Exact]api.Errno{
		x("0", "1", "0", "1"):                        api.OK,
		x("-1", "2", "3", "7"):                       api.OK,
		x("10", "1", "-20", "3"):                     api.OK,
		x("", "1", "0", "1"):                         api.ErrExact,
		x("1", "", "0", "1"):                         api.ErrExact,
		x("1", "1", "", "1"):                         api.ErrExact,
		x("1", "1", "0", ""):                         api.ErrExact,
		{}:                                           api.ErrExact,
		x("01", "1", "0", "1"):                       api.ErrExact,
		x("-01", "1", "0", "1"):                      api.ErrExact,
		x("1", "01", "0", "1"):                       api.ErrExact,
		x("00", "1", "0", "1"):                       api.ErrExact,
		x("+1", "1", "0", "1"):                       api.ErrExact,
		x("1", "+1", "0", "1"):                       api.ErrExact,
		x("-0", "1", "0", "1"):                       api.ErrExact,
		x("0", "1", "-0", "1"):                       api.ErrExact,
		x("-", "1", "0", "1"):                        api.ErrExact,
		x("--1", "1", "0", "1"):                      api.ErrExact,
		x("1", "-2", "0", "1"):                       api.ErrExact,
		x("-1", "-2", "0", "1"):                      api.ErrExact,
		x("1", "-0", "0", "1"):                       api.ErrExact,
		x("1", "0", "0", "1"):                        api.ErrExact,
		x("0", "0", "0", "1"):                        api.ErrExact,
		x("0", "1", "1", "0"):                        api.ErrExact,
		x("0", "1", "1", "-1"):                       api.ErrExact,
		x("1 ", "1", "0", "1"):                       api.ErrExact,
		x(" 1", "1", "0", "1"):                       api.ErrExact,
		x("1.0", "1", "0", "1"):                      api.ErrExact,
		x("1e2", "1", "0", "1"):                      api.ErrExact,
		x("\u0661", "1", "0", "1"):                   api.ErrExact,
		x("2", "4", "0", "1"):                        api.ErrExact,
		x("-3", "3", "0", "1"):                       api.ErrExact,
		x("1", "1", "15", "25"):                      api.ErrExact,
		x("0", "2", "0", "1"):                        api.ErrExact,
		x("0", "1", "0", "3"):                        api.ErrExact,
		x(full, "1", "-"+full, "2"):                  api.OK,
		x("1", full, "-1", full):                     api.OK,
		x("-"+full, tens(api.MaxDigits-1), "0", "1"): api.OK,
		x("6"+full[1:], "3", "0", "1"):               api.ErrExact,
		x(more, "1", "0", "1"):                       api.ErrMany,
		x("-"+more, "1", "0", "1"):                   api.ErrMany,
		x("1", more, "0", "1"):                       api.ErrMany,
		x("1", "-"+full, "0", "1"):                   api.ErrExact,
		x("1", "-"+more, "0", "1"):                   api.ErrMany,
		x("0", "1", more, "1"):                       api.ErrMany,
		x("0", "1", "1", more):                       api.ErrMany,
		x("--"+full[1:], "1", "0", "1"):              api.ErrExact,
		x("--"+full, "1", "0", "1"):                  api.ErrMany,
		x("+"+full, "1", "0", "1"):                   api.ErrMany,
		x("+"+full[1:], "1", "0", "1"):               api.ErrExact,
		x("x"+more, "1", "0", "1"):                   api.ErrMany,
		x("0"+full, "1", "0", "1"):                   api.ErrMany,
		x("0"+full[1:], "1", "0", "1"):               api.ErrExact,
		// Text by text: a wrong one ahead of one that is too long, and the other way round.
		x("x", more, "0", "1"):  api.ErrExact,
		x(more, "x", "0", "1"):  api.ErrMany,
		x("1", "0", more, "1"):  api.ErrExact,
		x("1", more, "x", "1"):  api.ErrMany,
		x("1", "1", "x", more):  api.ErrExact,
		x("1", "1", more, "x"):  api.ErrMany,
		x("1", "-1", "1", more): api.ErrExact,
		// The lowest terms are asked for behind all texts.
		x("2", "4", "0", more): api.ErrMany,
		x("2", "4", more, "1"): api.ErrMany,
		x("0", "5", "1", "0"):  api.ErrExact,
	} {
		if e := gauss.Check(a); e != want {
			t.Errorf("Check(%.60v): %d, want %d", a, e, want)
		}
		if want == api.OK {
			continue
		}
		errors, zero := asked(a)
		for i, e := range errors {
			if e != want {
				t.Errorf("call %d of %.60v: %d, want %d", i, a, e, want)
			}
		}
		if !zero {
			t.Errorf("%.60v: something beside the error", a)
		}
	}
}

// TestP3_1Left has two wrong numbers: the left one's error is told.
func TestP3_1Left(t *testing.T) {
	long, wrong := x("0", "1", "1", nines(api.MaxDigits+1)), x("2", "4", "0", "1")
	for _, f := range []func(a, b api.Exact) (api.Exact, api.Errno){gauss.Add, gauss.Sub, gauss.Mul, gauss.Div} {
		if _, e := f(long, wrong); e != api.ErrMany {
			t.Errorf("long ahead: %d", e)
		}
		if _, e := f(wrong, long); e != api.ErrExact {
			t.Errorf("wrong ahead: %d", e)
		}
	}
	if _, e := gauss.Same(long, wrong); e != api.ErrMany {
		t.Errorf("Same, long ahead: %d", e)
	}
	if _, e := gauss.Same(wrong, long); e != api.ErrExact {
		t.Errorf("Same, wrong ahead: %d", e)
	}
}

func TestP3_1Cmp(t *testing.T) {
	long := nines(api.MaxDigits + 1)
	one := q("1", "1")
	for a, want := range map[api.Ratio]api.Errno{
		{}:                                 api.ErrExact,
		q("1", "0"):                        api.ErrExact,
		q("1", "-1"):                       api.ErrExact,
		q("2", "2"):                        api.ErrExact,
		q("0", "2"):                        api.ErrExact,
		q("-0", "1"):                       api.ErrExact,
		q("+1", "1"):                       api.ErrExact,
		q(long, "x"):                       api.ErrMany,
		q("x", long):                       api.ErrExact,
		q("2", long):                       api.ErrMany,
		q("1", "-"+long[1:]):               api.ErrExact,
		q("-"+long[1:], "0"):               api.ErrExact,
		q("-"+long, "1"):                   api.ErrMany,
		q("1", "-"+long):                   api.ErrMany,
		q("12", "18"):                      api.ErrExact,
		q("1", strings.Repeat("x", 99999)): api.ErrMany,
	} {
		for _, l := range [][2]api.Ratio{{a, one}, {one, a}, {a, q("1", "x")}, {a, a}} {
			if n, e := gauss.Cmp(l[0], l[1]); n != 0 || e != want {
				t.Errorf("Cmp(%.60v): %d, %d, want %d", l, n, e, want)
			}
		}
	}
	if _, e := gauss.Cmp(q("2", "2"), q(long, "1")); e != api.ErrExact {
		t.Errorf("Cmp of what is not in lowest terms, and of one too long: %d", e)
	}
}

func TestP3_2Of(t *testing.T) {
	d := newDice()
	l := []float64{0, minusNought, 1, -1, 0.1, 3, -0.5, least, -least, greatest, -greatest, 0x1p-1022, 0x1.fffffffffffffp-1023, 0x1p53 + 2, 1e22}
	for range 300 {
		l = append(l, d.float())
	}
	for i, re := range l {
		im := l[len(l)-1-i]
		a, e := gauss.Of(complex(re, im))
		want := pair{new(big.Rat).SetFloat64(re), new(big.Rat).SetFloat64(im)}.exact()
		if a != want || e != api.OK {
			t.Errorf("Of(%v, %v): %v, %d", re, im, a, e)
		}
	}
	if a, e := gauss.Of(complex(minusNought, minusNought)); a != x("0", "1", "0", "1") || e != api.OK {
		t.Errorf("Of noughts with a minus: %v, %d", a, e)
	}
	for _, wrong := range []float64{infinite, -infinite, none} {
		for _, a := range []complex128{complex(wrong, 0), complex(0, wrong), complex(wrong, wrong)} {
			if a, e := gauss.Of(a); a != (api.Exact{}) || e != api.ErrReal {
				t.Errorf("Of(%v): %v, %d", wrong, a, e)
			}
		}
	}
}

func sameFloat(a, b float64) bool { return math.Float64bits(a) == math.Float64bits(b) }

// wantNear holds both parts against r and its opposite.
func wantNear(t *testing.T, r *big.Rat) {
	t.Helper()
	want, _ := r.Float64()
	if want == 0 {
		want = 0 // a minus goes
	}
	turned := new(big.Rat).Neg(r)
	for i, a := range []api.Exact{{Re: ratio(r), Im: ratio(turned)}, {Re: ratio(turned), Im: ratio(r)}} {
		v, e := gauss.Near(a)
		re, im := want, 0-want
		if i == 1 {
			re, im = im, re
		}
		if math.IsInf(want, 0) {
			if v != 0 || e != api.ErrReal {
				t.Errorf("Near(%.80v): %v, %d, want ErrReal", a, v, e)
			}
		} else if !sameFloat(real(v), re) || !sameFloat(imag(v), im) || e != api.OK {
			t.Errorf("Near(%.80v): %v, %d, want %v, %v", a, v, e, re, im)
		}
	}
}

func TestP3_2Near(t *testing.T) {
	d := newDice()
	for range 3000 {
		wantNear(t, d.fraction(1+d.below(4)))
	}
	for range 300 {
		wantNear(t, d.fraction(40))
	}
}

// TestP3_2NearEdges goes just below, to and just above the middles between neighbours, and the neighbours themselves.
func TestP3_2NearEdges(t *testing.T) {
	d := newDice()
	l := []float64{0, least, 2 * least, 3 * least, 0x1p-1022, 0x1.fffffffffffffp-1023, 0x1p-1023, 0x1p-1021, 1, 1 - 0x1p-53, 2, 0x1p53, 0x1p1023, greatest, math.Nextafter(greatest, 0)}
	for range 400 {
		l = append(l, math.Abs(d.float()), math.Float64frombits(d.word()>>12))
	}
	tiny := new(big.Rat).SetFrac(big.NewInt(1), new(big.Int).Lsh(big.NewInt(1), 1200))
	for _, a := range l {
		middle := new(big.Rat).SetFloat64(a)
		next := math.Nextafter(a, infinite)
		if math.IsInf(next, 0) {
			next = a - math.Nextafter(a, 0)
			middle.Add(middle, new(big.Rat).Quo(new(big.Rat).SetFloat64(next), big.NewRat(2, 1)))
		} else {
			middle.Add(middle, new(big.Rat).SetFloat64(next))
			middle.Quo(middle, big.NewRat(2, 1))
		}
		wantNear(t, new(big.Rat).SetFloat64(a))
		wantNear(t, middle)
		wantNear(t, new(big.Rat).Add(middle, tiny))
		wantNear(t, new(big.Rat).Sub(middle, tiny))
	}
}

// TestP3_2NearInfinite has the first number that would be infinite: the middle between the greatest float and 2^1024, whose neighbour's last bit is 1.
func TestP3_2NearInfinite(t *testing.T) {
	one := big.NewInt(1)
	bound := new(big.Int).Sub(new(big.Int).Lsh(one, 1024), new(big.Int).Lsh(one, 970))
	below := new(big.Int).Sub(bound, one)
	for _, c := range []struct {
		a    api.Exact
		want complex128
		e    api.Errno
	}{
		{x(bound.String(), "1", "0", "1"), 0, api.ErrReal},
		{x("0", "1", "-"+bound.String(), "1"), 0, api.ErrReal},
		{x(below.String(), "1", "-"+below.String(), "1"), complex(greatest, -greatest), api.OK},
		{x(tens(api.MaxDigits-1), "1", "0", "1"), 0, api.ErrReal},
		{x("1", tens(api.MaxDigits-1), "-1", tens(api.MaxDigits-1)), 0, api.OK},
		{x(tens(api.MaxDigits-1), nines(api.MaxDigits), "0", "1"), complex(0.1, 0), api.OK},
	} {
		v, e := gauss.Near(c.a)
		if !sameFloat(real(v), real(c.want)) || !sameFloat(imag(v), imag(c.want)) || e != c.e {
			t.Errorf("Near(%.40v): %v, %d", c.a, v, e)
		}
	}
}

func TestP3_2Whole(t *testing.T) {
	for _, c := range []struct {
		re, im int
		want   api.Exact
	}{
		{0, 0, x("0", "1", "0", "1")},
		{-7, 12, x("-7", "1", "12", "1")},
		{math.MaxInt64, math.MinInt64, x("9223372036854775807", "1", "-9223372036854775808", "1")},
		{math.MinInt64, math.MaxInt64, x("-9223372036854775808", "1", "9223372036854775807", "1")},
	} {
		a := gauss.Whole(c.re, c.im)
		if a != c.want || gauss.Check(a) != api.OK {
			t.Errorf("Whole(%d, %d): %v", c.re, c.im, a)
		}
	}
}

func TestP3_3Operations(t *testing.T) {
	d := newDice()
	for range 1500 {
		most := 1 + d.below(4)
		a, b := d.exact(most), d.exact(most)
		if d.below(8) == 0 {
			b = a
		}
		p, r := pairOf(a), pairOf(b)
		wantExact(t, "Add", gauss.Add, a, b, p.add(r).exact())
		wantExact(t, "Sub", gauss.Sub, a, b, p.sub(r).exact())
		wantExact(t, "Mul", gauss.Mul, a, b, p.mul(r).exact())
		if r.norm().Sign() != 0 {
			wantExact(t, "Div", gauss.Div, a, b, p.div(r).exact())
		}
		c, e := gauss.Conj(a)
		if (c != pair{p.re, new(big.Rat).Neg(p.im)}.exact()) || e != api.OK {
			t.Fatalf("Conj(%v): %v, %d", a, c, e)
		}
		n, e := gauss.Norm(a)
		if n != ratio(p.norm()) || e != api.OK {
			t.Fatalf("Norm(%v): %v, %d", a, n, e)
		}
	}
}

func wantExact(t *testing.T, what string, f func(a, b api.Exact) (api.Exact, api.Errno), a, b, want api.Exact) {
	t.Helper()
	if c, e := f(a, b); c != want || e != api.OK {
		t.Fatalf("%s(%.80v, %.80v): %.80v, %d, want %.80v", what, a, b, c, e, want)
	}
}

func TestP3_3DivByNought(t *testing.T) {
	nought := gauss.Whole(0, 0)
	for _, a := range []api.Exact{gauss.Whole(1, 0), nought, x("1", "3", "-2", "7")} {
		if c, e := gauss.Div(a, nought); c != (api.Exact{}) || e != api.ErrZero {
			t.Errorf("Div(%v, 0): %v, %d", a, c, e)
		}
		for _, b := range []api.Exact{gauss.Whole(2, 0), gauss.Whole(0, -2)} {
			wantExact(t, "Div", gauss.Div, a, b, pairOf(a).div(pairOf(b)).exact())
		}
	}
}

// TestP3_3Long has answers of just as many digits as may be, and of one more, in each of the four texts.
func TestP3_3Long(t *testing.T) {
	half, more := tens(api.MaxDigits/2-1), tens(api.MaxDigits/2)
	full := tens(api.MaxDigits - 1)
	one := "1"
	type f = func(a, b api.Exact) (api.Exact, api.Errno)
	for i, c := range []struct {
		f    f
		a, b api.Exact
		want api.Exact
		e    api.Errno
	}{
		{gauss.Mul, x(half, one, "0", one), x(more, one, "0", one), x(full, one, "0", one), api.OK},
		{gauss.Mul, x("-"+half, one, "0", one), x(more, one, "0", one), x("-"+full, one, "0", one), api.OK},
		{gauss.Mul, x(more, one, "0", one), x(more, one, "0", one), api.Exact{}, api.ErrMany},
		{gauss.Mul, x("0", one, more, one), x(half, one, "0", one), x("0", one, full, one), api.OK},
		{gauss.Mul, x("0", one, "-"+more, one), x(more, one, "0", one), api.Exact{}, api.ErrMany},
		{gauss.Mul, x(one, half, "0", one), x(one, more, "0", one), x(one, full, "0", one), api.OK},
		{gauss.Mul, x(one, more, "0", one), x(one, more, "0", one), api.Exact{}, api.ErrMany},
		{gauss.Mul, x("0", one, one, half), x(one, more, "0", one), x("0", one, one, full), api.OK},
		{gauss.Mul, x("0", one, one, more), x(one, more, "0", one), api.Exact{}, api.ErrMany},
		{gauss.Add, x(nines(api.MaxDigits), one, "0", one), x(one, one, "0", one), api.Exact{}, api.ErrMany},
		{gauss.Add, x("0", one, nines(api.MaxDigits), one), x("0", one, one, one), api.Exact{}, api.ErrMany},
		{gauss.Add, x(nines(api.MaxDigits), one, "0", one), x("-1", one, "0", one), x(nines(api.MaxDigits-1)+"8", one, "0", one), api.OK},
		{gauss.Sub, x("-"+nines(api.MaxDigits), one, "0", one), x(one, one, "0", one), api.Exact{}, api.ErrMany},
		{gauss.Sub, x("-"+nines(api.MaxDigits-1), one, "0", one), x(one, one, "0", one), x("-"+full, one, "0", one), api.OK},
		{gauss.Add, x(one, half, "0", one), x(one, more+"0", "0", one), x("101", more+"0", "0", one), api.OK},
		{gauss.Add, x(one, full, "0", one), x(one, "11", "0", one), api.Exact{}, api.ErrMany},
		{gauss.Add, x("0", one, one, full), x("0", one, one, "11"), api.Exact{}, api.ErrMany},
		{gauss.Div, x(half, one, "0", one), x(one, more, "0", one), x(full, one, "0", one), api.OK},
		{gauss.Div, x(more, one, "0", one), x(one, more, "0", one), api.Exact{}, api.ErrMany},
		{gauss.Div, x(one, one, "0", one), x(full, one, "0", one), x(one, full, "0", one), api.OK},
		{gauss.Div, x(one, "2", "0", one), x(full, one, "0", one), x(one, "2"+full[1:], "0", one), api.OK},
		{gauss.Div, x(one, tens(1), "0", one), x("0", one, full, one), api.Exact{}, api.ErrMany},
		// On the way there the numbers are longer; what counts is the answer.
		{gauss.Sub, x(one, nines(api.MaxDigits), "0", one), x(one, nines(api.MaxDigits), "0", one), gauss.Whole(0, 0), api.OK},
		{gauss.Div, x(full, nines(api.MaxDigits), one, nines(api.MaxDigits)), x(full, nines(api.MaxDigits), one, nines(api.MaxDigits)), gauss.Whole(1, 0), api.OK},
		{gauss.Mul, x(full, nines(api.MaxDigits), "0", one), x(nines(api.MaxDigits), full, "0", one), gauss.Whole(1, 0), api.OK},
	} {
		if a, e := c.f(c.a, c.b); a != c.want || e != c.e {
			t.Errorf("%d: %.80v, %d, want %d", i, a, e, c.e)
		}
	}
}

func TestP3_3LongNorm(t *testing.T) {
	root := tens(api.MaxDigits/2 - 1) // its square has one digit less than may be
	for _, c := range []struct {
		a    api.Exact
		want api.Ratio
		e    api.Errno
	}{
		{x(root, "1", "0", "1"), q(tens(api.MaxDigits-2), "1"), api.OK},
		{x("0", "1", "-"+root, "1"), q(tens(api.MaxDigits-2), "1"), api.OK},
		{x("0", "1", "4"+root[1:], "1"), q("16"+tens(api.MaxDigits - 2)[1:], "1"), api.OK},
		{x("9"+root[1:], "1", "9"+root[1:], "1"), api.Ratio{}, api.ErrMany}, // 162 and noughts
		{x("3"+root[1:], "1", "1", "1"), q("9"+strings.Repeat("0", api.MaxDigits-3)+"1", "1"), api.OK},
		{x(root+"0", "1", "0", "1"), api.Ratio{}, api.ErrMany},
		{x("1", root+"0", "0", "1"), api.Ratio{}, api.ErrMany},
		{x("1", root, "0", "1"), q("1", tens(api.MaxDigits-2)), api.OK},
	} {
		if a, e := gauss.Norm(c.a); a != c.want || e != c.e {
			t.Errorf("Norm(%.40v): %.80v, %d", c.a, a, e)
		}
	}
	full := nines(api.MaxDigits)
	if a, e := gauss.Conj(x("-"+full, "1", full, "2")); a != x("-"+full, "1", "-"+full, "2") || e != api.OK {
		t.Errorf("Conj of a long one: %.40v, %d", a, e)
	}
	if a, e := gauss.Conj(x("-1", "2", "0", "1")); a != x("-1", "2", "0", "1") || e != api.OK {
		t.Errorf("Conj of a real one: %v, %d", a, e)
	}
}

func TestP3_4Cmp(t *testing.T) {
	d := newDice()
	for range 2000 {
		a, b := d.fraction(3), d.fraction(3)
		switch d.below(4) {
		case 0:
			b.Set(a)
		case 1:
			b.Add(a, new(big.Rat).SetFrac(big.NewInt(int64(d.below(3)-1)), new(big.Int).Lsh(big.NewInt(1), 300)))
		}
		if n, e := gauss.Cmp(ratio(a), ratio(b)); n != a.Cmp(b) || e != api.OK {
			t.Fatalf("Cmp(%v, %v): %d, %d", a, b, n, e)
		}
	}
	long := nines(api.MaxDigits)
	for _, c := range []struct {
		a, b api.Ratio
		want int
	}{
		{q(long, "1"), q("-"+long, "1"), 1},
		{q("-"+long, "1"), q("-"+long[1:], "1"), -1},
		{q(long, "10"), q(long, "10"), 0},
		{q("1", long), q("1", long[1:]), -1},
		{q(long, tens(api.MaxDigits-1)), q("10", "1"), -1},
		{q("0", "1"), q("-1", long), 1},
		{q("0", "1"), q("0", "1"), 0},
	} {
		if n, e := gauss.Cmp(c.a, c.b); n != c.want || e != api.OK {
			t.Errorf("Cmp(%.20v, %.20v): %d, %d", c.a, c.b, n, e)
		}
	}
}

func TestP3_4Same(t *testing.T) {
	d := newDice()
	for range 300 {
		a, b := d.exact(2), d.exact(2)
		for _, c := range []api.Exact{a, b, {Re: a.Re, Im: b.Im}, {Re: b.Re, Im: a.Im}, {Re: a.Im, Im: a.Re}} {
			want := rational(a.Re).Cmp(rational(c.Re)) == 0 && rational(a.Im).Cmp(rational(c.Im)) == 0
			if is, e := gauss.Same(a, c); is != want || e != api.OK {
				t.Fatalf("Same(%v, %v): %v, %d", a, c, is, e)
			}
		}
	}
	if is, e := gauss.Same(gauss.Whole(1, 2), gauss.Whole(1, -2)); is || e != api.OK {
		t.Errorf("Same of mirror images: %v, %d", is, e)
	}
}

func valueOf(l []complex128, z complex128) pair {
	exact := func(a complex128) pair {
		return pair{new(big.Rat).SetFloat64(real(a)), new(big.Rat).SetFloat64(imag(a))}
	}
	v := pair{new(big.Rat), new(big.Rat)}
	for i := range l {
		v = v.mul(exact(z)).add(exact(l[len(l)-1-i]))
	}
	return v
}

func TestP3_5At(t *testing.T) {
	d := newDice()
	part := func(reach int) float64 {
		switch d.below(8) {
		case 0:
			return minusNought
		case 1:
			return 0
		case 2:
			return float64(d.below(9) - 4)
		}
		return math.Ldexp(math.Copysign(1+float64(d.word()>>12)*0x1p-52, float64(d.below(2))-0.5), d.below(2*reach)-reach)
	}
	for i := range 400 {
		reach := 1 + d.below(60)
		l := make([]complex128, 1+i%12)
		for j := range l {
			l[j] = complex(part(reach), part(reach))
		}
		z := complex(part(reach), part(reach))
		a, e := gauss.At(l, z)
		if a != valueOf(l, z).exact() || e != api.OK {
			t.Fatalf("At(%v, %v): %v, %d", l, z, a, e)
		}
	}
	full := make([]complex128, api.MaxDegree+1)
	for i := range full {
		full[i] = complex(float64(d.below(99)), part(3))
	}
	for _, z := range []complex128{0, complex(minusNought, minusNought), 1, complex(0.5, -0.25), complex(3, 1), complex(0x1p20, -0x1p-20)} {
		if a, e := gauss.At(full, z); a != valueOf(full, z).exact() || e != api.OK {
			t.Errorf("At of all coefficients at %v: %.80v, %d", z, a, e)
		}
	}
	for _, c := range []complex128{complex(greatest, -greatest), complex(least, 1), complex(minusNought, greatest)} {
		if a, e := gauss.At([]complex128{c}, complex(least, greatest)); a != valueOf([]complex128{c}, 0).exact() || e != api.OK {
			t.Errorf("At of one coefficient: %.80v, %d", a, e)
		}
	}
}

// power is c times z^n as coefficients.
func power(c complex128, n int) []complex128 { return append(make([]complex128, n), c) }

func TestP3_5AtEdges(t *testing.T) {
	steep := power(1, 64)
	steep[63] = -0x1p1000
	two := func(n uint) string { return new(big.Int).Lsh(big.NewInt(1), n).String() }
	for i, c := range []struct {
		l    []complex128
		z    complex128
		want api.Exact
		e    api.Errno
	}{
		{nil, 1, api.Exact{}, api.ErrMany},
		{[]complex128{}, complex(none, 0), api.Exact{}, api.ErrMany},
		{power(1, 65), 1, api.Exact{}, api.ErrMany},
		{power(complex(none, 0), 65), complex(infinite, 0), api.Exact{}, api.ErrMany},
		{make([]complex128, api.MaxDegree+2), 0, api.Exact{}, api.ErrMany},
		{make([]complex128, api.MaxDegree+1), complex(greatest, greatest), gauss.Whole(0, 0), api.OK},
		{power(1, 64), 1, gauss.Whole(1, 0), api.OK},
		{[]complex128{1, complex(0, none)}, 1, api.Exact{}, api.ErrReal},
		{[]complex128{complex(infinite, 0)}, 1, api.Exact{}, api.ErrReal},
		{[]complex128{1, complex(0, -infinite)}, 0, api.Exact{}, api.ErrReal},
		{[]complex128{1}, complex(none, 0), api.Exact{}, api.ErrReal},
		{[]complex128{1}, complex(0, infinite), api.Exact{}, api.ErrReal},
		// 2^54426 has 16384 digits, 2^54427 one more; the bottoms likewise.
		{power(0x1p26, 64), 0x1p850, x(two(54426), "1", "0", "1"), api.OK},
		{power(0x1p27, 64), 0x1p850, api.Exact{}, api.ErrMany},
		{power(-0x1p26i, 64), 0x1p850, x("0", "1", "-"+two(54426), "1"), api.OK},
		{power(0x1p27i, 64), 0x1p850, api.Exact{}, api.ErrMany},
		{power(0x1p-26, 64), 0x1p-850, x("1", two(54426), "0", "1"), api.OK},
		{power(0x1p-27, 64), 0x1p-850, api.Exact{}, api.ErrMany},
		{power(0x1p-26i, 64), 0x1p-850, x("0", "1", "1", two(54426)), api.OK},
		{power(0x1p-27i, 64), 0x1p-850, api.Exact{}, api.ErrMany},
		{power(greatest, 64), complex(greatest, least), api.Exact{}, api.ErrMany},
		// What is longer on the way goes out again.
		{steep, 0x1p1000, gauss.Whole(0, 0), api.OK},
	} {
		if a, e := gauss.At(c.l, c.z); a != c.want || e != c.e {
			t.Errorf("At %d: %.80v, %d, want %d", i, a, e, c.e)
		}
	}
}

func TestP3_7OnlyRead(t *testing.T) {
	room := []complex128{complex(minusNought, 1), 2, 3, 0, complex(7, none), 8}
	before := slices.Clone(room)
	l := room[:4]
	gauss.At(l, complex(1, 2))
	gauss.Zeros(l, api.Box{Low: complex(-2, -2), High: complex(2, 2)})
	gauss.Zeros(l, api.Box{Low: complex(-0.5, -2), High: complex(-0.25, 2)})
	for i, a := range room {
		if !sameFloat(real(a), real(before[i])) || !sameFloat(imag(a), imag(before[i])) {
			t.Errorf("coefficient %d is %v now", i, a)
		}
	}
}

func TestP3_8Laws(t *testing.T) {
	d := newDice()
	do := func(f func(a, b api.Exact) (api.Exact, api.Errno), a, b api.Exact) api.Exact {
		c, e := f(a, b)
		if e != api.OK {
			t.Fatalf("%d of %v, %v", e, a, b)
		}
		return c
	}
	for range 300 {
		a, b, c := d.exact(2), d.exact(2), d.exact(2)
		if do(gauss.Add, a, b) != do(gauss.Add, b, a) || do(gauss.Mul, a, b) != do(gauss.Mul, b, a) {
			t.Fatalf("either order of %v, %v", a, b)
		}
		if do(gauss.Sub, do(gauss.Add, a, b), b) != a {
			t.Fatalf("Sub of Add of %v, %v", a, b)
		}
		if b != gauss.Whole(0, 0) && do(gauss.Div, do(gauss.Mul, a, b), b) != a {
			t.Fatalf("Div of Mul of %v, %v", a, b)
		}
		if do(gauss.Mul, a, do(gauss.Add, b, c)) != do(gauss.Add, do(gauss.Mul, a, b), do(gauss.Mul, a, c)) {
			t.Fatalf("Mul over Add of %v, %v, %v", a, b, c)
		}
		norm := func(a api.Exact) api.Exact {
			n, e := gauss.Norm(a)
			if e != api.OK {
				t.Fatalf("Norm(%v): %d", a, e)
			}
			return api.Exact{Re: n, Im: q("0", "1")}
		}
		if norm(do(gauss.Mul, a, b)) != do(gauss.Mul, norm(a), norm(b)) {
			t.Fatalf("Norm of Mul of %v, %v", a, b)
		}
		turned, _ := gauss.Conj(a)
		if do(gauss.Mul, a, turned) != norm(a) {
			t.Fatalf("a and Conj of %v", a)
		}
		there, _ := gauss.Cmp(a.Re, b.Re)
		back, _ := gauss.Cmp(b.Re, a.Re)
		if there != -back {
			t.Fatalf("Cmp of %v, %v", a, b)
		}
	}
}

func TestP3_8NearOf(t *testing.T) {
	d := newDice()
	for range 1000 {
		z := complex(d.float(), d.float())
		if d.below(9) == 0 {
			z = complex(minusNought, imag(z))
		}
		a, e := gauss.Of(z)
		if e != api.OK {
			t.Fatalf("Of(%v): %d", z, e)
		}
		if v, e := gauss.Near(a); v != z || e != api.OK || real(v) == 0 && math.Signbit(real(v)) {
			t.Fatalf("Near of Of(%v): %v, %d", z, v, e)
		}
	}
}

func TestExamples(t *testing.T) {
	if a, e := gauss.Of(complex(0.5, -3)); a != x("1", "2", "-3", "1") || e != api.OK {
		t.Errorf("Of(0.5 - 3i): %v, %d", a, e)
	}
	if a, e := gauss.Of(complex(minusNought, 0.1)); a != x("0", "1", "3602879701896397", "36028797018963968") || e != api.OK {
		t.Errorf("Of(-0 + 0.1i): %v, %d", a, e)
	}
	if _, e := gauss.Of(complex(infinite, 0)); e != api.ErrReal {
		t.Errorf("Of(infinite): %d", e)
	}
	if v, e := gauss.Near(x("1", "3", "-1", "3")); v != complex(0.3333333333333333, -0.3333333333333333) || e != api.OK {
		t.Errorf("Near(1/3, -1/3): %v, %d", v, e)
	}
	if _, e := gauss.Near(x(tens(309), "1", "0", "1")); e != api.ErrReal {
		t.Errorf("Near(10^309, 0): %d", e)
	}
	if v, e := gauss.Near(x("1", tens(400), "0", "1")); v != 0 || e != api.OK {
		t.Errorf("Near(1 over 10^400, 0): %v, %d", v, e)
	}
	for _, a := range []api.Exact{x("2", "4", "0", "1"), x("-0", "1", "0", "1"), x("1", "-2", "0", "1"), x("01", "1", "0", "1"), x("0", "2", "0", "1")} {
		if e := gauss.Check(a); e != api.ErrExact {
			t.Errorf("Check(%v): %d", a, e)
		}
	}
	if e := gauss.Check(x(strings.Repeat("1", 16385), "1", "0", "1")); e != api.ErrMany {
		t.Errorf("Check of 16385 digits: %d", e)
	}
	wantExact(t, "Mul", gauss.Mul, x("1", "2", "1", "1"), x("1", "2", "-1", "1"), x("5", "4", "0", "1"))
	wantExact(t, "Div", gauss.Div, gauss.Whole(1, 0), gauss.Whole(1, 1), x("1", "2", "-1", "2"))
	if _, e := gauss.Div(gauss.Whole(1, 0), gauss.Whole(0, 0)); e != api.ErrZero {
		t.Errorf("Div(1, 0): %d", e)
	}
	if n, e := gauss.Norm(gauss.Whole(3, 4)); n != q("25", "1") || e != api.OK {
		t.Errorf("Norm(3 + 4i): %v, %d", n, e)
	}
	if n, e := gauss.Cmp(q("1", "3"), q("1", "2")); n != -1 || e != api.OK {
		t.Errorf("Cmp(1/3, 1/2): %d, %d", n, e)
	}
	if is, e := gauss.Same(gauss.Whole(1, 2), gauss.Whole(1, 2)); !is || e != api.OK {
		t.Errorf("Same: %v, %d", is, e)
	}
	if a, e := gauss.At([]complex128{1, 0, 1}, 1i); a != gauss.Whole(0, 0) || e != api.OK {
		t.Errorf("At(1, 0, 1; i): %v, %d", a, e)
	}
	if _, e := gauss.At(nil, 0); e != api.ErrMany {
		t.Errorf("At of nothing: %d", e)
	}
}
