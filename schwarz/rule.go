package schwarz

import (
	"eddy/float"
	"eddy/parts"
)

// The rule of four, by its bits: so they stand here, with no rounding of digits between.
const (
	outerNode   = 0x3feb8e6dbcf63985
	outerWeight = 0x3fd64340f7e7b66b
	innerNode   = 0x3fd5c23fd9dd3dfc
	innerWeight = 0x3fe4de5f840c24ca
)

// rule is where in a piece of the width 1 about nought the slope is asked, and how much each answer counts.
func rule() (nodes, weights [4]float64) {
	p, q := float.From(outerNode)/2, float.From(innerNode)/2
	far, near := float.From(outerWeight), float.From(innerWeight)
	return [4]float64{-p, -q, q, p}, [4]float64{far, near, near, far}
}

// over is the rule's sum of what is told at its nodes.
func over(ask func(node float64) complex128) complex128 {
	nodes, weights := rule()
	var terms [4]complex128
	for i, node := range nodes {
		terms[i] = parts.Scale(ask(node), weights[i])
	}
	return parts.Sum(terms[:])
}

// between is the sum over all pieces of the straight way.
func between(at, angles []float64, from, to complex128, pieces int) complex128 {
	way := parts.Sub(to, from)
	h := complex(real(way)/float64(pieces), imag(way)/float64(pieces))
	terms := make([]complex128, pieces)
	for i := range terms {
		middle := along(from, float64(i)+0.5, h)
		sum := over(func(node float64) complex128 {
			return slope(at, angles, along(middle, node, h))
		})
		terms[i] = parts.Mul(parts.Scale(h, 0.5), sum)
	}
	return parts.Sum(terms)
}

// along goes from a place so many steps on.
func along(z complex128, steps float64, h complex128) complex128 {
	return parts.Add(z, parts.Scale(h, steps))
}
