package schwarz_test

import (
	"math"
	"testing"

	"eddy/api"
	"eddy/power"
)

// The operations as calls that are not inlined: none of them can be fused with another one.

//go:noinline
func plus(x, y float64) float64 { return x + y }

//go:noinline
func minus(x, y float64) float64 { return x - y }

//go:noinline
func times(x, y float64) float64 { return x * y }

//go:noinline
func over(x, y float64) float64 { return x / y }

// The functions below are chapter 2's words, one operation a call.

func add(a, b complex128) complex128 {
	return complex(plus(real(a), real(b)), plus(imag(a), imag(b)))
}

func mul(a, b complex128) complex128 {
	return complex(minus(times(real(a), real(b)), times(imag(a), imag(b))), plus(times(real(a), imag(b)), times(imag(a), real(b))))
}

func scale(a complex128, by float64) complex128 {
	return complex(times(real(a), by), times(imag(a), by))
}

func within(a complex128) bool {
	return math.Abs(real(a)) <= farthest && math.Abs(imag(a)) <= farthest
}

func isNought(a complex128) bool { return real(a) == 0 && imag(a) == 0 }

// The functions below are the chapter's words.

func checkSteps(s shape) api.Errno {
	n := len(s.at)
	if n < 3 || n > 16 {
		return api.ErrMany
	}
	for _, a := range s.at {
		if !within(complex(a, 0)) {
			return api.ErrReal
		}
	}
	if len(s.angles) != n {
		return api.ErrMany
	}
	for _, t := range s.angles {
		if !within(complex(t, 0)) {
			return api.ErrReal
		}
	}
	sum := s.angles[0]
	for i, t := range s.angles {
		if !(0 < t && t < 2) || i > 0 && !(s.at[i-1] < s.at[i]) {
			return api.ErrPolygon
		}
		if i > 0 {
			sum = plus(sum, t)
		}
	}
	if !(math.Abs(minus(sum, float64(n-2))) <= 0x1p-40) {
		return api.ErrPolygon
	}
	return api.OK
}

// upperSteps are ErrReal and ErrPlace of a place that ought to lie in the upper half plane.
func upperSteps(z complex128) api.Errno {
	if !within(z) {
		return api.ErrReal
	}
	if imag(z) < 0 {
		return api.ErrPlace
	}
	return api.OK
}

// finiteSteps answers ErrPlace where what is told is not finite.
func finiteSteps(a complex128) (complex128, api.Errno) {
	if !isFinite(a) {
		return 0, api.ErrPlace
	}
	return a, api.OK
}

func productSteps(s shape, z complex128) (out complex128) {
	x, y := real(z), math.Abs(imag(z))
	for i, a := range s.at {
		one := power.Real(complex(minus(x, a), y), minus(s.angles[i], 1))
		if i == 0 {
			out = one
			continue
		}
		out = mul(out, one)
	}
	return out
}

func slopeSteps(s shape, z complex128) (complex128, api.Errno) {
	if e := checkSteps(s); e != api.OK {
		return 0, e
	}
	if e := upperSteps(z); e != api.OK {
		return 0, e
	}
	return finiteSteps(productSteps(s, z))
}

func pieceSteps(s shape, from, h complex128, i int) complex128 {
	p, q := math.Float64frombits(0x3feb8e6dbcf63985), math.Float64frombits(0x3fd5c23fd9dd3dfc)
	far, near := math.Float64frombits(0x3fd64340f7e7b66b), math.Float64frombits(0x3fe4de5f840c24ca)
	on := plus(float64(i), 0.5)
	m := complex(plus(real(from), times(on, real(h))), plus(imag(from), times(on, imag(h))))
	at := func(v float64) complex128 {
		return productSteps(s, complex(plus(real(m), times(v, real(h))), plus(imag(m), times(v, imag(h)))))
	}
	sum := scale(at(-p/2), far)
	sum = add(sum, scale(at(-q/2), near))
	sum = add(sum, scale(at(q/2), near))
	sum = add(sum, scale(at(p/2), far))
	return mul(complex(times(real(h), 0.5), times(imag(h), 0.5)), sum)
}

func betweenSteps(s shape, from, to complex128, pieces int) (complex128, api.Errno) {
	for _, e := range []api.Errno{checkSteps(s), upperSteps(from), upperSteps(to)} {
		if e != api.OK {
			return 0, e
		}
	}
	if pieces < 1 || pieces > steps {
		return 0, api.ErrArg
	}
	n := float64(pieces)
	h := complex(over(minus(real(to), real(from)), n), over(minus(imag(to), imag(from)), n))
	sum := pieceSteps(s, from, h, 0)
	for i := 1; i < pieces; i++ {
		sum = add(sum, pieceSteps(s, from, h, i))
	}
	return finiteSteps(sum)
}

func cornersSteps(s shape, pieces int) (list, api.Errno) {
	if e := checkSteps(s); e != api.OK {
		return nil, e
	}
	if pieces < 1 || pieces > steps {
		return nil, api.ErrArg
	}
	l := list{0}
	for i := 1; i < len(s.at); i++ {
		side, e := betweenSteps(s, complex(s.at[i-1], 0), complex(s.at[i], 0), pieces)
		if e != api.OK {
			return nil, e
		}
		z, e := finiteSteps(add(l[i-1], side))
		if e != api.OK {
			return nil, e
		}
		l = append(l, z)
	}
	return l, api.OK
}

func highSteps(high float64) bool { return nearest <= high && high <= farthest }

func stripSteps(z complex128, high float64) (complex128, api.Errno) {
	if !within(z) || !highSteps(high) {
		return 0, api.ErrReal
	}
	if imag(z) < 0 || isNought(z) {
		return 0, api.ErrPlace
	}
	return scale(power.Log(complex(real(z), math.Abs(imag(z)))), over(high, half)), api.OK
}

func backSteps(w complex128, high float64) (complex128, api.Errno) {
	if !within(w) || !highSteps(high) {
		return 0, api.ErrReal
	}
	if !(0 <= imag(w) && imag(w) <= high) {
		return 0, api.ErrPlace
	}
	return finiteSteps(power.Exp(scale(w, over(half, high))))
}

// counted sees to it that of what is thrown enough is told, and enough refused with each error.
type counted map[api.Errno]int

func (c counted) want(t *testing.T, atLeast int, errors ...api.Errno) {
	t.Helper()
	for _, e := range errors {
		if c[e] < atLeast {
			t.Errorf("the error %d came %d times", int(e), c[e])
		}
	}
}

func TestP19_1Steps(t *testing.T) {
	d, seen := newDice(), counted{}
	for range 60000 {
		s := d.any()
		e := checkSteps(s)
		seen[e]++
		wantCheck(t, s, e)
	}
	seen.want(t, 3000, api.OK, api.ErrMany, api.ErrReal, api.ErrPolygon)
}

// near is a place of s, from above or from below, or one that number tells.
func (d *dice) near(s shape) complex128 {
	if len(s.at) == 0 || d.below(6) > 0 {
		return d.number()
	}
	return complex(s.at[d.below(len(s.at))], d.nought())
}

func TestP19_2Steps(t *testing.T) {
	d, seen := newDice(), counted{}
	for range 120000 {
		s := d.any()
		z := d.near(s)
		w, e := slopeSteps(s, z)
		wantSlope(t, s, z, w, e)
		seen[e]++
	}
	seen.want(t, 1500, api.OK, api.ErrMany, api.ErrReal, api.ErrPolygon, api.ErrPlace)
}

func (d *dice) pieces() int {
	switch d.below(24) {
	case 0:
		return []int{0, -1, steps + 1, math.MinInt, math.MaxInt}[d.below(5)]
	case 1:
		return 9 + d.below(40)
	}
	return 1 + d.below(8)
}

func TestP19_3Steps(t *testing.T) {
	d, seen := newDice(), counted{}
	for range 40000 {
		s, pieces := d.any(), d.pieces()
		from, to := d.near(s), d.near(s)
		w, e := betweenSteps(s, from, to, pieces)
		wantBetween(t, s, from, to, pieces, w, e)
		seen[e]++
	}
	seen.want(t, 200, api.OK, api.ErrMany, api.ErrReal, api.ErrPolygon, api.ErrPlace, api.ErrArg)
}

func TestP19_4Steps(t *testing.T) {
	d, seen := newDice(), counted{}
	for range 15000 {
		s, pieces := d.any(), d.pieces()
		l, e := cornersSteps(s, pieces)
		wantCorners(t, s, pieces, l, e)
		seen[e]++
	}
	seen.want(t, 60, api.OK, api.ErrMany, api.ErrReal, api.ErrPolygon, api.ErrPlace, api.ErrArg)
}

// high is how high a strip may be, or, at times, may not.
func (d *dice) high() float64 {
	switch d.below(12) {
	case 0:
		return d.float()
	case 1:
		return floats{nearest, farthest, beyond, math.Nextafter(nearest, 0)}[d.below(4)]
	case 2:
		return math.Abs(d.part(-40, 40))
	}
	return math.Abs(d.part(-10, 10))
}

func TestP19_5Steps(t *testing.T) {
	d, seen, back := newDice(), counted{}, counted{}
	for range 60000 {
		z, high := d.number(), d.high()
		w, e := stripSteps(z, high)
		wantStrip(t, z, high, w, e)
		seen[e]++
		if d.below(2) == 0 {
			w = complex(d.part(-6, 9)*high, floats{0, minusNought, 1, d.unit(), d.unit(), 1.5}[d.below(6)]*high)
		}
		z, e = backSteps(w, high)
		wantBack(t, w, high, z, e)
		back[e]++
	}
	seen.want(t, 2000, api.OK, api.ErrReal, api.ErrPlace)
	back.want(t, 2000, api.OK, api.ErrReal, api.ErrPlace)
}
