package whole_test

import (
	"math"
	"math/big"
	"strings"
	"testing"

	"eddy/whole"
)

// dice tells words, the same ones at each run.
type dice uint64

func newDice() *dice {
	d := dice(0x9e3779b97f4a7c15)
	return &d
}

func (d *dice) word() uint64 {
	x := *d
	x ^= x << 13
	x ^= x >> 7
	x ^= x << 17
	*d = x
	return uint64(x)
}

func (d *dice) below(n int) int { return int(d.word() % uint64(n)) }

// whole is a number of up to that many words, many of them all noughts or all ones, where carries and guesses go wrong.
func (d *dice) whole(most int) *big.Int {
	n := new(big.Int)
	for range d.below(most + 1) {
		x := d.word()
		switch d.below(6) {
		case 0:
			x = 0
		case 1:
			x = math.MaxUint64
		case 2:
			x = 1 << 63
		case 3:
			x = uint64(d.below(3))
		}
		n.Lsh(n, 64).Or(n, new(big.Int).SetUint64(x))
	}
	if d.below(2) == 0 {
		n.Neg(n)
	}
	return n
}

func of(t *testing.T, n *big.Int) whole.Number {
	t.Helper()
	a, ok := whole.Read(n.String())
	if !ok {
		t.Fatalf("Read(%v) refused", n)
	}
	return a
}

func want(t *testing.T, what string, got whole.Number, n *big.Int) {
	t.Helper()
	if got.Text() != n.String() {
		t.Fatalf("%s: %s, want %v", what, got.Text(), n)
	}
	if got.Sign() != n.Sign() || got.Bits() != n.BitLen() || got.IsOne() != (n.Cmp(big.NewInt(1)) == 0) {
		t.Fatalf("%s: sign %d, %d bits, one %v of %v", what, got.Sign(), got.Bits(), got.IsOne(), n)
	}
}

func TestOperations(t *testing.T) {
	d := newDice()
	for range 60000 {
		x, y := d.whole(1+d.below(9)), d.whole(1+d.below(9))
		a, b := of(t, x), of(t, y)
		want(t, "the number", a, x)
		want(t, "Plus", a.Plus(b), new(big.Int).Add(x, y))
		want(t, "Minus", a.Minus(b), new(big.Int).Sub(x, y))
		want(t, "Times", a.Times(b), new(big.Int).Mul(x, y))
		want(t, "Neg", a.Neg(), new(big.Int).Neg(x))
		want(t, "Abs", a.Abs(), new(big.Int).Abs(x))
		if a.Cmp(b) != x.Cmp(y) || a.Cmp(a) != 0 {
			t.Fatalf("Cmp(%v, %v): %d", x, y, a.Cmp(b))
		}
		want(t, "Common", whole.Common(a, b), new(big.Int).GCD(nil, nil, new(big.Int).Abs(x), new(big.Int).Abs(y)))
		if y.Sign() == 0 {
			continue
		}
		q, r := a.Over(b)
		quotient, rest := new(big.Int).QuoRem(x, y, new(big.Int))
		want(t, "Over", q, quotient)
		want(t, "the rest", r, rest)
	}
}

// TestGuesses has quotients of ones and divisors with leading words that lead a guess astray.
func TestGuesses(t *testing.T) {
	d := newDice()
	shapes := []string{"8000000000000000", "8000000000000001", "ffffffffffffffff", "fffffffffffffffe", "0000000000000000", "0000000000000001", "7fffffffffffffff"}
	number := func(words int) *big.Int {
		var b strings.Builder
		for range words {
			b.WriteString(shapes[d.below(len(shapes))])
		}
		n, _ := new(big.Int).SetString(b.String(), 16)
		return n
	}
	for range 60000 {
		y := number(2 + d.below(3))
		if y.Sign() == 0 {
			continue
		}
		x := new(big.Int).Mul(y, number(1+d.below(3)))
		x.Add(x, number(1+d.below(4)))
		x.Sub(x, big.NewInt(int64(d.below(3))))
		q, r := of(t, x).Over(of(t, y))
		quotient, rest := new(big.Int).QuoRem(x, y, new(big.Int))
		want(t, "Over", q, quotient)
		want(t, "the rest", r, rest)
	}
}

// TestCommonOfLong has long numbers with a long common divisor, neighbours of Fibonacci's, and numbers of unlike lengths.
func TestCommonOfLong(t *testing.T) {
	d := newDice()
	a, b := big.NewInt(1), big.NewInt(1)
	for range 1200 {
		a, b = b, new(big.Int).Add(a, b)
	}
	one := big.NewInt(1)
	for _, shared := range []*big.Int{one, big.NewInt(6), new(big.Int).Lsh(one, 64), new(big.Int).Lsh(one, 700), d.whole(30)} {
		for range 60 {
			x, y := d.whole(40), d.whole(1+d.below(40))
			x.Mul(x, shared)
			y.Mul(y, shared)
			want(t, "Common", whole.Common(of(t, x), of(t, y)), new(big.Int).GCD(nil, nil, new(big.Int).Abs(x), new(big.Int).Abs(y)))
		}
		x, y := new(big.Int).Mul(a, shared), new(big.Int).Mul(b, shared)
		want(t, "Common of neighbours", whole.Common(of(t, x), of(t, y)), new(big.Int).Abs(shared))
	}
}

func TestShifts(t *testing.T) {
	d := newDice()
	for range 4000 {
		x, n := d.whole(6), d.below(300)
		a := of(t, x)
		if d.below(4) == 0 {
			n = 64 * d.below(4)
		}
		want(t, "Left", a.Left(n), new(big.Int).Lsh(x, uint(n)))
		want(t, "Right", a.Right(n), new(big.Int).Quo(x, new(big.Int).Lsh(big.NewInt(1), uint(n))))
		if a.Twos() != int(x.TrailingZeroBits()) {
			t.Fatalf("Twos(%v): %d", x, a.Twos())
		}
		if low := new(big.Int).And(new(big.Int).Abs(x), new(big.Int).SetUint64(math.MaxUint64)); a.Low() != low.Uint64() {
			t.Fatalf("Low(%v): %d", x, a.Low())
		}
		if n < 12 {
			want(t, "Power", a.Power(n), new(big.Int).Exp(x, big.NewInt(int64(n)), nil))
		}
	}
}

func TestOf(t *testing.T) {
	for _, n := range []int{0, 1, -1, 42, math.MaxInt, math.MinInt, math.MinInt + 1} {
		want(t, "Of", whole.Of(n), big.NewInt(int64(n)))
	}
	var none whole.Number
	want(t, "the zero value", none, new(big.Int))
}

func TestOfFloat(t *testing.T) {
	d := newDice()
	l := []float64{0, math.Copysign(0, -1), 1, -1, 0.1, math.MaxFloat64, -math.MaxFloat64, 0x1p-1074, -0x3p-1074, 0x1p-1022, 0x1p1023}
	for range 2000 {
		if x := math.Float64frombits(d.word()); !math.IsNaN(x) && !math.IsInf(x, 0) {
			l = append(l, x)
		}
	}
	for _, x := range l {
		n, power := whole.OfFloat(x)
		got, _ := new(big.Float).SetPrec(64).SetString(n.Text())
		got.SetMantExp(got, power)
		if got.Cmp(big.NewFloat(x)) != 0 || n.Sign() != 0 && n.Low()%2 == 0 || n.Sign() == 0 && power != 0 {
			t.Fatalf("OfFloat(%v): %s, %d", x, n.Text(), power)
		}
	}
}

func TestTexts(t *testing.T) {
	for _, text := range []string{"", "-", "+1", "-0", "00", "01", "-01", "--1", "1-", " 1", "1 ", "1.", "1e3", "0x1", "1_0", "\u0661", "a", "/", ":", "1\x00"} {
		if n, ok := whole.Read(text); ok || n.Sign() != 0 {
			t.Errorf("Read(%q): %s, %v", text, n.Text(), ok)
		}
	}
	for digits := 1; digits < 120; digits++ {
		for _, text := range []string{strings.Repeat("9", digits), "1" + strings.Repeat("0", digits), "-5" + strings.Repeat("0", digits) + "7"} {
			n, ok := whole.Read(text)
			if !ok || n.Text() != text {
				t.Errorf("Read(%q): %s, %v", text, n.Text(), ok)
			}
		}
	}
}
