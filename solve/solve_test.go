package solve_test

import (
	"math"
	"testing"

	"eddy/api"
	"eddy/parts"
	"eddy/solve"
)

type (
	rows    = [][]float64
	list    = []float64
	planes  = [][]complex128
	places  = []complex128
	refused = api.Errno
)

const (
	least    = 0x1p-1074
	greatest = math.MaxFloat64
	most     = 128 // the most unknowns
)

var (
	minusNought = math.Copysign(0, -1)
	infinite    = math.Inf(1)
	none        = math.NaN()
	strange     = list{none, infinite, -infinite}
)

// dice tells words, the same ones at each run.
type dice uint64

func newDice() *dice {
	d := dice(0x9e3779b97f4a7c15)
	return &d
}

func (d *dice) word() uint64 {
	x := *d
	x ^= x << 13
	x ^= x >> 7
	x ^= x << 17
	*d = x
	return uint64(x)
}

func (d *dice) below(n int) int { return int(d.word() % uint64(n)) }

// part is a float of either sign, from 2^low to below 2^high in worth.
func (d *dice) part(low, high int) float64 {
	sign := float64(int64(d.word()))
	x := math.Ldexp(1+float64(d.word()>>12)*0x1p-52, low+d.below(high-low))
	return math.Copysign(x, sign)
}

func (d *dice) whole(reach int) float64 { return float64(d.below(2*reach+1) - reach) }

// thrower is one of the kinds of floats of which systems are made: among few wholes ties and noughts are many, among the great ones and the small ones pivots leave the floats.
func (d *dice) thrower() func() float64 {
	switch d.below(7) {
	case 0:
		return func() float64 { return d.whole(2) }
	case 1:
		return func() float64 { return d.whole(8) }
	case 2:
		return func() float64 { return list{0, minusNought, 1, -1, greatest, -greatest, 0x1p1023}[d.below(7)] }
	case 3:
		return func() float64 { return list{0, minusNought, least, -least, 0x1p-1022, 1, 3 * least}[d.below(7)] }
	case 4:
		return func() float64 { return d.part(-1070, 1023) }
	case 5:
		return func() float64 { return d.part(1019, 1024) }
	}
	return func() float64 { return d.part(-3, 3) }
}

func (d *dice) list(n int, throw func() float64) list {
	l := make(list, n)
	for i := range l {
		l[i] = throw()
	}
	return l
}

func (d *dice) system(n int, throw func() float64) rows {
	a := make(rows, n)
	for i := range a {
		a[i] = d.list(n, throw)
	}
	if n > 1 && d.below(6) == 0 {
		a[d.below(n)] = append(list{}, a[0]...)
	}
	return a
}

func (d *dice) places(n int, throw func() float64) places {
	l := make(places, n)
	for i := range l {
		l[i] = complex(throw(), throw())
	}
	return l
}

func (d *dice) planes(n int, throw func() float64) planes {
	a := make(planes, n)
	for i := range a {
		a[i] = d.places(n, throw)
	}
	if n > 1 && d.below(6) == 0 {
		a[d.below(n)] = append(places{}, a[0]...)
	}
	return a
}

func diagonal(l ...float64) rows {
	a := make(rows, len(l))
	for i, c := range l {
		a[i] = make(list, len(l))
		a[i][i] = c
	}
	return a
}

// flat is a system with imaginary parts that are noughts.
func flat(a rows) planes {
	out := make(planes, len(a))
	for i, row := range a {
		out[i] = flatList(row)
	}
	return out
}

func flatList(l list) places {
	out := make(places, len(l))
	for i, c := range l {
		out[i] = complex(c, 0)
	}
	return out
}

func sameFloats(a, b float64) bool {
	return math.IsNaN(a) && math.IsNaN(b) || math.Float64bits(a) == math.Float64bits(b)
}

func same(a, b complex128) bool {
	return sameFloats(real(a), real(b)) && sameFloats(imag(a), imag(b))
}

// alike asks element by element; lists that must be nothing may be nil or not.
func alike[T any](a, b []T, same func(T, T) bool) bool {
	if len(a) != len(b) {
		return false
	}
	for i := range a {
		if !same(a[i], b[i]) {
			return false
		}
	}
	return true
}

func sameLists(a, b list) bool    { return alike(a, b, sameFloats) }
func samePlaces(a, b places) bool { return alike(a, b, same) }

func sameNumbers(a, b []int) bool {
	return alike(a, b, func(i, k int) bool { return i == k })
}

func wantSolve(t *testing.T, a rows, b, x list, e refused) {
	t.Helper()
	if y, f := solve.Solve(a, b); f != e || !sameLists(y, x) {
		t.Errorf("Solve(%x, %x): %x, %d, not %x, %d", few(a), few(b), few(y), int(f), few(x), int(e))
	}
}

func wantComplex(t *testing.T, a planes, b, x places, e refused) {
	t.Helper()
	if y, f := solve.Complex(a, b); f != e || !samePlaces(y, x) {
		t.Errorf("Complex(%x, %x): %x, %d, not %x, %d", few(a), few(b), few(y), int(f), few(x), int(e))
	}
}

// wantLike leaves noughts' signs open.
func wantLike(t *testing.T, a planes, b, x places) {
	t.Helper()
	if y, e := solve.Complex(a, b); e != api.OK || !alike(y, x, parts.Like) {
		t.Errorf("Complex(%x, %x): %x, %d, not like %x", few(a), few(b), few(y), int(e), few(x))
	}
}

func wantPivots(t *testing.T, a rows, numbers []int, e refused) {
	t.Helper()
	if n, f := solve.Pivots(a); f != e || !sameNumbers(n, numbers) {
		t.Errorf("Pivots(%x): %d, %d, not %d, %d", few(a), few(n), int(f), few(numbers), int(e))
	}
}

func wantDet(t *testing.T, a rows, det float64, e refused) {
	t.Helper()
	if d, f := solve.Det(a); f != e || !sameFloats(d, det) {
		t.Errorf("Det(%x): %x, %d, not %x, %d", few(a), d, int(f), det, int(e))
	}
}

func wantOff(t *testing.T, a rows, x, b list, off float64, e refused) {
	t.Helper()
	if o, f := solve.Off(a, x, b); f != e || !sameFloats(o, off) {
		t.Errorf("Off(%x, %x, %x): %x, %d, not %x, %d", few(a), few(x), few(b), o, int(f), off, int(e))
	}
}

// wantSingular asks the three calls that answer ErrSingular where a pivot makes a system singular.
func wantSingular(t *testing.T, a rows) {
	t.Helper()
	b := make(list, len(a))
	wantSolve(t, a, b, nil, api.ErrSingular)
	wantComplex(t, flat(a), flatList(b), nil, api.ErrSingular)
	wantPivots(t, a, nil, api.ErrSingular)
}

// few keeps what is told of a fault short.
func few[T any](l []T) []T { return l[:min(len(l), 8)] }
