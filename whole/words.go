package whole

import (
	"cmp"
	"math/bits"
)

// The lists of words here are worths without a sign, the lowest word first. No function changes a list that it is handed.

// trim drops the noughts at the end, so that lengths can be held against each other.
func trim(a []uint64) []uint64 {
	for len(a) > 0 && a[len(a)-1] == 0 {
		a = a[:len(a)-1]
	}
	return a
}

func compare(a, b []uint64) int {
	if len(a) != len(b) {
		return cmp.Compare(len(a), len(b))
	}
	for i := len(a) - 1; i >= 0; i-- {
		if a[i] != b[i] {
			return cmp.Compare(a[i], b[i])
		}
	}
	return 0
}

func sum(a, b []uint64) []uint64 {
	if len(a) < len(b) {
		a, b = b, a
	}
	out := make([]uint64, len(a)+1)
	var carry uint64
	for i, x := range a {
		out[i], carry = bits.Add64(x, word(b, i), carry)
	}
	out[len(a)] = carry
	return trim(out)
}

// difference is a less b, which is not greater.
func difference(a, b []uint64) []uint64 {
	out := make([]uint64, len(a))
	var borrow uint64
	for i, x := range a {
		out[i], borrow = bits.Sub64(x, word(b, i), borrow)
	}
	return trim(out)
}

// word is a word of the list, or one of the noughts beyond its end.
func word(a []uint64, i int) uint64 {
	if i < len(a) {
		return a[i]
	}
	return 0
}

func product(a, b []uint64) []uint64 {
	if len(a) == 0 || len(b) == 0 {
		return nil
	}
	out := make([]uint64, len(a)+len(b))
	for i, x := range a {
		out[i+len(b)] = addTimes(out[i:i+len(b)], b, x)
	}
	return trim(out)
}

// addTimes adds x times b to the list to, which is as long as b, and tells what goes over.
func addTimes(to, b []uint64, x uint64) uint64 {
	var over uint64
	for i, y := range b {
		high, low := bits.Mul64(x, y)
		low, carry := bits.Add64(low, over, 0)
		high += carry // no wrap: the greatest product and twice the greatest word are 2^128 - 1
		low, carry = bits.Add64(low, to[i], 0)
		to[i], over = low, high+carry
	}
	return over
}

// left is a times 2 to the power of n.
func left(a []uint64, n int) []uint64 {
	if len(a) == 0 {
		return nil
	}
	whole, rest := n/64, uint(n%64)
	out := make([]uint64, len(a)+whole+1)
	for i, x := range a {
		out[i+whole] |= x << rest
		out[i+whole+1] = x >> (64 - rest) // by 64 that is nought in Go
	}
	return trim(out)
}

// right is a over 2 to the power of n, its broken part dropped.
func right(a []uint64, n int) []uint64 {
	whole, rest := n/64, uint(n%64)
	if whole >= len(a) {
		return nil
	}
	out := make([]uint64, len(a)-whole)
	for i := range out {
		out[i] = a[i+whole]>>rest | word(a, i+whole+1)<<(64-rest)
	}
	return trim(out)
}

func length(a []uint64) int {
	if len(a) == 0 {
		return 0
	}
	return 64*(len(a)-1) + bits.Len64(a[len(a)-1])
}
