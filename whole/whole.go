// Package whole has whole numbers of any size, in lists of words: what the exact layers reckon with.
package whole

import (
	"cmp"
	"math/bits"

	"eddy/float"
)

// Number is a whole number; its zero value is 0. No method changes one, so copies may share their words.
type Number struct {
	minus bool     // never nought's
	words []uint64 // its worth without the sign, the lowest word first, the last one not 0
}

// signed is the number of a sign and trimmed words; nought has no sign.
func signed(minus bool, words []uint64) Number {
	return Number{minus && len(words) > 0, words}
}

// Of is n.
func Of(n int) Number {
	size := uint64(n)
	if n < 0 {
		size = -size // as a word: the least n has no opposite among the ints
	}
	return signed(n < 0, trim([]uint64{size}))
}

// OfFloat is a finite float as an odd number (or 0) times 2 to a power.
func OfFloat(a float64) (Number, int) {
	if a == 0 {
		return Number{}, 0
	}
	part, power := float.Parts(a)
	n := Of(int(float.Scale(part, 53)))
	free := n.Twos()
	return n.Right(free), power - 53 + free
}

// Sign is -1, 0 or 1.
func (a Number) Sign() int {
	switch {
	case len(a.words) == 0:
		return 0
	case a.minus:
		return -1
	}
	return 1
}

// Bits is how many binary digits a has, without its sign.
func (a Number) Bits() int { return length(a.words) }

// Twos is how often a, which is not nought, can be halved; of nought it is 0.
func (a Number) Twos() int {
	for i, x := range a.words {
		if x != 0 {
			return 64*i + bits.TrailingZeros64(x)
		}
	}
	return 0
}

// Low is the lowest word of a, without its sign.
func (a Number) Low() uint64 { return word(a.words, 0) }

// IsOne tells whether a is 1.
func (a Number) IsOne() bool { return len(a.words) == 1 && a.words[0] == 1 && !a.minus }

// Neg is a with its sign turned.
func (a Number) Neg() Number { return signed(!a.minus, a.words) }

// Abs is a without its sign.
func (a Number) Abs() Number { return signed(false, a.words) }

// Plus is a and b together.
func (a Number) Plus(b Number) Number {
	if a.minus == b.minus {
		return signed(a.minus, sum(a.words, b.words))
	}
	if compare(a.words, b.words) < 0 {
		a, b = b, a
	}
	return signed(a.minus, difference(a.words, b.words))
}

// Minus is a less b.
func (a Number) Minus(b Number) Number { return a.Plus(b.Neg()) }

// Times is a times b.
func (a Number) Times(b Number) Number {
	return signed(a.minus != b.minus, product(a.words, b.words))
}

// Over is a over b, which is not nought, its broken part dropped, and the rest, which has a's sign.
func (a Number) Over(b Number) (quotient, rest Number) {
	q, r := divide(a.words, b.words)
	return signed(a.minus != b.minus, q), signed(a.minus, r)
}

// Power is a to the power of n, which is not below nought.
func (a Number) Power(n int) Number {
	out := Of(1)
	for range n {
		out = out.Times(a)
	}
	return out
}

// Left is a times 2 to the power of n, which is not below nought.
func (a Number) Left(n int) Number { return signed(a.minus, left(a.words, n)) }

// Right is a over 2 to the power of n, which is not below nought, its broken part dropped.
func (a Number) Right(n int) Number { return signed(a.minus, right(a.words, n)) }

// Cmp is -1, 0 or 1: a is less than b, as great, greater.
func (a Number) Cmp(b Number) int {
	switch {
	case a.Sign() != b.Sign():
		return cmp.Compare(a.Sign(), b.Sign())
	case a.minus:
		return compare(b.words, a.words)
	}
	return compare(a.words, b.words)
}

// Common is the greatest number by which both can be divided; of nought and b it is b without its sign.
func Common(a, b Number) Number { return signed(false, common(a.words, b.words)) }
