package whole

import (
	"strconv"
	"strings"
)

const (
	wordDigits = 19 // so many digits fit into a word
	wordTens   = 10_000_000_000_000_000_000
)

// Read is the number that a text tells in tens: digits without noughts ahead, a minus ahead of them below nought. It tells whether the text is such.
func Read(text string) (Number, bool) {
	digits, minus := strings.CutPrefix(text, "-")
	if !plain(digits) || minus && digits == "0" {
		return Number{}, false
	}
	var words []uint64
	for len(digits) > 0 {
		// The first piece takes what is over, so that all others are of one length.
		n := (len(digits)-1)%wordDigits + 1
		words = timesPlus(words, wordTens, pieceOf(digits[:n]))
		digits = digits[n:]
	}
	return signed(minus, words), true
}

// plain tells whether a text is digits, without a nought ahead of others.
func plain(digits string) bool {
	if digits == "" || digits[0] == '0' && len(digits) > 1 {
		return false
	}
	for i := range len(digits) {
		if digits[i] < '0' || digits[i] > '9' {
			return false
		}
	}
	return true
}

func pieceOf(digits string) uint64 {
	var n uint64
	for i := range len(digits) {
		n = 10*n + uint64(digits[i]-'0')
	}
	return n
}

// timesPlus is a times x, and y.
func timesPlus(a []uint64, x, y uint64) []uint64 {
	out := append(make([]uint64, 0, len(a)+1), y)
	out = append(out, make([]uint64, len(a))...)
	out[len(a)] += addTimes(out[:len(a)], a, x)
	return trim(out)
}

// Text tells the number in tens, as Read takes it.
func (a Number) Text() string {
	if len(a.words) == 0 {
		return "0"
	}
	var pieces []uint64
	for rest := a.words; len(rest) > 0; {
		var piece uint64
		rest, piece = divideWord(rest, wordTens)
		pieces = append(pieces, piece)
	}
	var b strings.Builder
	if a.minus {
		b.WriteByte('-')
	}
	last := len(pieces) - 1
	b.WriteString(strconv.FormatUint(pieces[last], 10))
	for i := range last {
		digits := strconv.FormatUint(pieces[last-1-i], 10)
		b.WriteString(strings.Repeat("0", wordDigits-len(digits)))
		b.WriteString(digits)
	}
	return b.String()
}
