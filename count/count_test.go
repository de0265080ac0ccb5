package count_test

import (
	"math"
	"testing"

	"eddy/api"
	"eddy/count"
)

type list = []complex128

const (
	least    = 0x1p-1074
	most     = 0x1p40 // the greatest worth of a real
	narrow   = 0x1p-40
	steps    = 16384 // pieces of a walk, at most
	points   = 4096  // places of a path, at most
	deepest  = 24
	degrees  = 64
	greatest = math.MaxFloat64
)

var (
	minusNought = math.Copysign(0, -1)
	infinite    = math.Inf(1)
	none        = math.NaN()
	beyond      = math.Nextafter(most, infinite)
)

// of is a box by its parts: re from a to b, im from c to d.
func of(a, b, c, d float64) api.Box { return api.Box{Low: complex(a, c), High: complex(b, d)} }

// square is the box about nought whose sides are that far from it.
func square(w float64) api.Box { return of(-w, w, -w, w) }

// corners are those of a box, as its border goes.
func corners(b api.Box) list {
	return list{b.Low, complex(real(b.High), imag(b.Low)), b.High, complex(real(b.Low), imag(b.High))}
}

// back is a path the other way.
func back(l list) list {
	out := make(list, len(l))
	for i := range l {
		out[len(l)-1-i] = l[i]
	}
	return out
}

// power is c z^n.
func power(c complex128, n int) list { return append(make(list, n), c) }

func filled(n int, c complex128) list {
	l := make(list, n)
	for i := range l {
		l[i] = c
	}
	return l
}

// times is the product; that of small whole numbers is exact.
func times(a, b list) list {
	out := make(list, len(a)+len(b)-1)
	for i, x := range a {
		for j, y := range b {
			out[i+j] += x * y
		}
	}
	return out
}

// with is the polynomial of these zeros.
func with(last complex128, zeros ...complex128) list {
	l := list{last}
	for _, z := range zeros {
		l = times(l, list{-z, 1})
	}
	return l
}

// dice tells words, the same ones at each run.
type dice uint64

func newDice() *dice {
	d := dice(0x9e3779b97f4a7c15)
	return &d
}

func (d *dice) word() uint64 {
	x := *d
	x ^= x << 13
	x ^= x >> 7
	x ^= x << 17
	*d = x
	return uint64(x)
}

func (d *dice) below(n int) int { return int(d.word() % uint64(n)) }

// part is a float of either sign, from 2^low to below 2^high in worth.
func (d *dice) part(low, high int) float64 {
	sign := float64(int64(d.word()))
	x := math.Ldexp(1+float64(d.word()>>12)*0x1p-52, low+d.below(high-low))
	return math.Copysign(x, sign)
}

func (d *dice) number(low, high int) complex128 {
	return complex(d.part(low, high), d.part(low, high))
}

// whole is a number of whole parts, not beyond reach.
func (d *dice) whole(reach int) complex128 {
	return complex(float64(d.below(2*reach+1)-reach), float64(d.below(2*reach+1)-reach))
}

// polynomial has a degree from 0 to one less than so many.
func (d *dice) polynomial(n int, coefficient func() complex128) list {
	l := make(list, 1+d.below(n))
	for i := range l {
		l[i] = coefficient()
	}
	for l[len(l)-1] == 0 {
		l[len(l)-1] = coefficient()
	}
	return l
}

// box has an inside, and corners not beyond reach.
func (d *dice) box(reach float64) api.Box {
	corner := func() (float64, float64) {
		for {
			a, b := reach*(float64(d.below(2049))/1024-1), reach*(float64(d.below(2049))/1024-1)
			if a < b {
				return a, b
			}
		}
	}
	a, b := corner()
	c, e := corner()
	return of(a, b, c, e)
}

func sameFloats(a, b float64) bool { return math.Float64bits(a) == math.Float64bits(b) }

func same(a, b complex128) bool {
	return sameFloats(real(a), real(b)) && sameFloats(imag(a), imag(b))
}

func sameBoxes(a, b []api.Box) bool {
	if len(a) != len(b) {
		return false
	}
	for i := range a {
		if !same(a[i].Low, b[i].Low) || !same(a[i].High, b[i].High) {
			return false
		}
	}
	return true
}

func sameCounts(a, b []int) bool {
	if len(a) != len(b) {
		return false
	}
	for i := range a {
		if a[i] != b[i] {
			return false
		}
	}
	return true
}

func wantZeros(t *testing.T, l list, b api.Box, depth, ought int, oughtE api.Errno) {
	t.Helper()
	if n, e := count.Zeros(l, b, depth); n != ought || e != oughtE {
		t.Errorf("Zeros(%x; %x, %d): %d, %d, not %d, %d", l, b, depth, n, int(e), ought, int(oughtE))
	}
}

func wantBoth(t *testing.T, top, bottom list, b api.Box, depth, ought int, oughtE api.Errno) {
	t.Helper()
	if n, e := count.Both(api.Fraction{Top: top, Bottom: bottom}, b, depth); n != ought || e != oughtE {
		t.Errorf("Both(%x over %x; %x, %d): %d, %d, not %d, %d", top, bottom, b, depth, n, int(e), ought, int(oughtE))
	}
}

func wantRound(t *testing.T, l, path list, depth, ought, oughtPieces int, oughtE api.Errno) {
	t.Helper()
	if n, pieces, e := count.Round(l, path, depth); n != ought || pieces != oughtPieces || e != oughtE {
		t.Errorf("Round(%x; %d places, %x, %d): %d, %d, %d, not %d, %d, %d", l, len(path), path[:min(len(path), 9)], depth, n, pieces, int(e), ought, oughtPieces, int(oughtE))
	}
}

func wantFind(t *testing.T, l list, b api.Box, wide float64, depth int, ought []api.Box, oughtZeros []int, oughtE api.Errno) {
	t.Helper()
	boxes, zeros, e := count.Find(l, b, wide, depth)
	if !sameBoxes(boxes, ought) || !sameCounts(zeros, oughtZeros) || e != oughtE {
		t.Errorf("Find(%x; %x, %x, %d): %x, %d, %d, not %x, %d, %d", l, b, wide, depth, boxes, zeros, int(e), ought, oughtZeros, int(oughtE))
	}
}
