package whole

import "math/bits"

// divide is a over b, which is not nought, and the rest: digit by digit from the top, the digits being words.
func divide(a, b []uint64) (quotient, rest []uint64) {
	if compare(a, b) < 0 {
		return nil, a
	}
	if len(b) == 1 {
		q, r := divideWord(a, b[0])
		return q, trim([]uint64{r})
	}
	// With b's highest bit set a guess from the leading words is hardly ever too great.
	shift := bits.LeadingZeros64(b[len(b)-1])
	by := left(b, shift)
	of := make([]uint64, len(a)+1)
	copy(of, left(a, shift))
	quotient = make([]uint64, len(a)-len(b)+1)
	for i := len(quotient) - 1; i >= 0; i-- {
		quotient[i] = takeOut(of[i:i+len(by)+1], by)
	}
	return trim(quotient), right(trim(of), shift)
}

func divideWord(a []uint64, by uint64) ([]uint64, uint64) {
	out := make([]uint64, len(a))
	var rest uint64
	for i := len(a) - 1; i >= 0; i-- {
		out[i], rest = bits.Div64(rest, a[i], by)
	}
	return trim(out), rest
}

// takeOut takes by out of the list from as often as it goes, which is less than 2^64 times; from has one word more.
func takeOut(from, by []uint64) uint64 {
	often := guess(from[len(from)-3:], by[len(by)-2:])
	if takeTimes(from, by, often) {
		// The guess is at most one too great.
		often--
		putBack(from, by)
	}
	return often
}

// guess tells from the three leading words of one number and the two of another how often this one goes into it: as often, or once more.
func guess(top, by []uint64) uint64 {
	if top[2] == by[1] {
		return 1<<64 - 1
	}
	often, rest := bits.Div64(top[2], top[1], by[1])
	for {
		high, low := bits.Mul64(often, by[0])
		if high < rest || high == rest && low <= top[0] {
			return often
		}
		often--
		var carry uint64
		rest, carry = bits.Add64(rest, by[1], 0)
		if carry != 0 {
			return often
		}
	}
}

// takeTimes takes often times by out of the list from, and tells whether that was too much; what is missing goes round 2^64 then.
func takeTimes(from, by []uint64, often uint64) bool {
	var over, borrow uint64
	for i, y := range by {
		high, low := bits.Mul64(often, y)
		low, carry := bits.Add64(low, over, 0)
		over = high + carry
		from[i], borrow = bits.Sub64(from[i], low, borrow)
	}
	last := len(by)
	from[last], borrow = bits.Sub64(from[last], over, borrow)
	return borrow != 0
}

func putBack(to, by []uint64) {
	var carry uint64
	for i, y := range by {
		to[i], carry = bits.Add64(to[i], y, carry)
	}
	to[len(by)] += carry
}
