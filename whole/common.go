package whole

import "math/bits"

// common is the greatest common divisor. Steps of Euclid's are taken many at a time, by what the leading words tell of them: one by one they would go over the whole lists tens of thousands of times.
func common(a, b []uint64) []uint64 {
	if compare(a, b) < 0 {
		a, b = b, a
	}
	for len(b) > 1 {
		s := foresee(a, b)
		if s.kb == 0 { // not one that is sure
			_, rest := divide(a, b)
			a, b = b, rest
			continue
		}
		a, b = s.taken(a, b)
	}
	if len(b) == 0 {
		return a
	}
	_, rest := divideWord(a, b[0])
	return trim([]uint64{commonWord(b[0], rest)})
}

func commonWord(a, b uint64) uint64 {
	for b != 0 {
		a, b = b, a%b
	}
	return a
}

// steps are several steps of Euclid's in one: the two numbers that come of them are ka*a less kb*b, and nb*b less na*a; after an odd number of steps with the signs turned.
type steps struct {
	odd            bool
	ka, kb, na, nb uint64
}

// foresee goes on with the leading 64 bits of a and b, where b is not the greater one, as long as the quotients are surely those of the whole numbers (Collins' rule: the pair that a step comes to tells whether the step ahead of it was right, so the last one does not count).
func foresee(a, b []uint64) steps {
	from := length(a) - 64
	x, y := lead(a, from), lead(b, from)
	sure := steps{ka: 1, nb: 1}
	s := sure
	for y >= s.nb && x-y >= s.kb+s.nb {
		q := x / y
		x, y = y, x-q*y
		sure, s = s, steps{!s.odd, s.na, s.nb, s.ka + q*s.na, s.kb + q*s.nb}
	}
	return sure
}

// lead is what stands from that bit on, where it has no more than 64 bits.
func lead(a []uint64, from int) uint64 {
	i, rest := from/64, uint(from%64)
	return word(a, i)>>rest | word(a, i+1)<<(64-rest)
}

func (s steps) taken(a, b []uint64) ([]uint64, []uint64) {
	if s.odd {
		return less(b, s.kb, a, s.ka), less(a, s.na, b, s.nb)
	}
	return less(a, s.ka, b, s.kb), less(b, s.nb, a, s.na)
}

// less is x times a, less y times b; it is not below nought, and not beyond the longer list.
func less(a []uint64, x uint64, b []uint64, y uint64) []uint64 {
	out := make([]uint64, max(len(a), len(b)))
	var overA, overB, carry, borrow uint64
	for i := range out {
		highA, lowA := bits.Mul64(word(a, i), x)
		lowA, carry = bits.Add64(lowA, overA, 0)
		overA = highA + carry
		highB, lowB := bits.Mul64(word(b, i), y)
		lowB, carry = bits.Add64(lowB, overB, 0)
		overB = highB + carry
		out[i], borrow = bits.Sub64(lowA, lowB, borrow)
	}
	return trim(out)
}
