package chart_test

import (
	"math"
	"testing"

	"eddy/angle"
	"eddy/api"
	"eddy/chart"
	powers "eddy/power"
	"eddy/roots"
)

// The operations as calls that are not inlined: none of them can be fused with another one.

//go:noinline
func plus(x, y float64) float64 { return x + y }

//go:noinline
func minus(x, y float64) float64 { return x - y }

//go:noinline
func times(x, y float64) float64 { return x * y }

//go:noinline
func over(x, y float64) float64 { return x / y }

// The functions below are chapter 2's words, one operation a call.

func add(a, b complex128) complex128 {
	return complex(plus(real(a), real(b)), plus(imag(a), imag(b)))
}

func sub(a, b complex128) complex128 {
	return complex(minus(real(a), real(b)), minus(imag(a), imag(b)))
}

func mul(a, b complex128) complex128 {
	return complex(minus(times(real(a), real(b)), times(imag(a), imag(b))), plus(times(real(a), imag(b)), times(imag(a), real(b))))
}

func div(a, b complex128) complex128 {
	p, q, r, s := real(a), imag(a), real(b), imag(b)
	if math.Abs(r) >= math.Abs(s) {
		k := over(s, r)
		t := plus(r, times(s, k))
		return complex(over(plus(p, times(q, k)), t), over(minus(q, times(p, k)), t))
	}
	k := over(r, s)
	t := plus(times(r, k), s)
	return complex(over(plus(times(p, k), q), t), over(minus(times(q, k), p), t))
}

func scale(a complex128, by float64) complex128 {
	return complex(times(real(a), by), times(imag(a), by))
}

func conj(a complex128) complex128 { return complex(real(a), -imag(a)) }

func neg(a complex128) complex128 { return complex(-real(a), -imag(a)) }

// wholePower has each power that comes up here as the products that its binary digits tell.
func wholePower(a complex128, n float64) complex128 {
	switch n {
	case 0:
		return 1
	case 1:
		return a
	case 2:
		return mul(a, a)
	case 3:
		return mul(mul(a, a), a)
	}
	return mul(mul(a, a), mul(a, a))
}

func within(a complex128) bool {
	return math.Abs(real(a)) <= farthest && math.Abs(imag(a)) <= farthest
}

func isNought(a complex128) bool { return real(a) == 0 && imag(a) == 0 }

// The functions below are the chapter's words.

func checkSteps(m api.Map) api.Errno {
	if m.Kind < 1 || m.Kind > 4 {
		return api.ErrMap
	}
	if !within(m.A) || !within(m.B) || !within(m.C) || !within(m.D) || !within(complex(m.Power, 0)) {
		return api.ErrReal
	}
	may := false
	switch m.Kind {
	case 1:
		may = !isNought(determinantSteps(m)) && m.Power == 0
	case 2:
		may = !isNought(m.A) && isNought(m.B) && isNought(m.C) && isNought(m.D) && m.Power == 0
	case 3:
		may = !isNought(m.A) && isNought(m.C) && isNought(m.D) && 0.25 <= m.Power && m.Power <= 4
	case 4:
		may = !isNought(m.A) && !isNought(m.B) && isNought(m.C) && isNought(m.D) && m.Power == 0
	}
	if !may {
		return api.ErrMap
	}
	return api.OK
}

func determinantSteps(m api.Map) complex128 { return sub(mul(m.A, m.D), mul(m.B, m.C)) }

func wholeSteps(p float64) bool { return p == 1 || p == 2 || p == 3 || p == 4 }

// finiteSteps answers ErrPlace where what is told is not finite.
func finiteSteps(a complex128) (complex128, api.Errno) {
	if !isFinite(a) {
		return 0, api.ErrPlace
	}
	return a, api.OK
}

func atSteps(m api.Map, z complex128) (complex128, api.Errno) {
	if e := checkSteps(m); e != api.OK {
		return 0, e
	}
	if !within(z) {
		return 0, api.ErrReal
	}
	d, t := sub(z, m.B), add(mul(m.C, z), m.D)
	switch m.Kind {
	case 1:
		if isNought(t) {
			return 0, api.ErrPlace
		}
		return finiteSteps(div(add(mul(m.A, z), m.B), t))
	case 2:
		if isNought(z) {
			return 0, api.ErrPlace
		}
		return finiteSteps(add(z, div(mul(m.A, m.A), z)))
	case 3:
		if wholeSteps(m.Power) {
			return finiteSteps(mul(m.A, wholePower(d, m.Power)))
		}
		if isNought(d) {
			return 0, api.OK
		}
		return finiteSteps(mul(m.A, powers.Real(d, m.Power)))
	}
	return finiteSteps(mul(m.A, powers.Exp(mul(m.B, z))))
}

func slopeSteps(m api.Map, z complex128) (complex128, api.Errno) {
	if e := checkSteps(m); e != api.OK {
		return 0, e
	}
	if !within(z) {
		return 0, api.ErrReal
	}
	d, t := sub(z, m.B), add(mul(m.C, z), m.D)
	switch m.Kind {
	case 1:
		if isNought(t) {
			return 0, api.ErrPlace
		}
		return finiteSteps(div(determinantSteps(m), wholePower(t, 2)))
	case 2:
		if isNought(z) {
			return 0, api.ErrPlace
		}
		return finiteSteps(sub(1, div(mul(m.A, m.A), wholePower(z, 2))))
	case 3:
		if wholeSteps(m.Power) {
			return finiteSteps(mul(scale(m.A, m.Power), wholePower(d, minus(m.Power, 1))))
		}
		if isNought(d) && m.Power < 1 {
			return 0, api.ErrPlace
		}
		if isNought(d) {
			return 0, api.OK
		}
		return finiteSteps(mul(scale(m.A, m.Power), powers.Real(d, minus(m.Power, 1))))
	}
	return finiteSteps(mul(mul(m.A, m.B), powers.Exp(mul(m.B, z))))
}

// withinSteps answers ErrPlace where what is told is no place.
func withinSteps(a complex128) (complex128, api.Errno) {
	if !within(a) {
		return 0, api.ErrPlace
	}
	return a, api.OK
}

func backSteps(m api.Map, w complex128, other bool) (complex128, api.Errno) {
	if e := checkSteps(m); e != api.OK {
		return 0, e
	}
	if !within(w) {
		return 0, api.ErrReal
	}
	u := w
	if !like(m.A, 1) {
		u = div(w, m.A)
	}
	switch m.Kind {
	case 1:
		g := sub(m.A, mul(m.C, w))
		if other || isNought(g) {
			return 0, api.ErrBranch
		}
		return withinSteps(div(sub(mul(m.D, w), m.B), g))
	case 2:
		return joukowskiBackSteps(m, w, other)
	case 3:
		return powerBackSteps(m, u, other)
	}
	if isNought(u) {
		return 0, api.ErrBranch
	}
	if !other {
		return withinSteps(div(powers.Log(u), m.B))
	}
	log, is := powers.Sheet(u, 1)
	if !is {
		return 0, api.ErrPlace
	}
	return withinSteps(div(log, m.B))
}

func joukowskiBackSteps(m api.Map, w complex128, other bool) (complex128, api.Errno) {
	f := scale(m.A, 2)
	s := mul(roots.Root(sub(w, f)), roots.Root(add(w, f)))
	if plus(times(real(w), real(s)), times(imag(w), imag(s))) < 0 {
		s = neg(s)
	}
	b := scale(add(w, s), 0.5)
	if other {
		return withinSteps(div(mul(m.A, m.A), b))
	}
	return withinSteps(b)
}

func powerBackSteps(m api.Map, u complex128, other bool) (complex128, api.Errno) {
	p := m.Power
	if other && p != 2 {
		return 0, api.ErrBranch
	}
	var e complex128
	switch {
	case p == 1:
		e = u
	case isNought(u):
	case p < 1 && math.Abs(angle.Of(imag(u), real(u))) > times(p, half):
		return 0, api.ErrBranch
	default:
		e = powers.Real(u, over(1, p))
	}
	if other {
		return withinSteps(sub(m.B, e))
	}
	return withinSteps(add(m.B, e))
}

func checkedSteps(m api.Map) (api.Map, api.Errno) {
	if e := checkSteps(m); e != api.OK {
		return api.Map{}, e
	}
	return m, api.OK
}

func thenSteps(m, n api.Map) (api.Map, api.Errno) {
	if e := checkSteps(m); e != api.OK {
		return api.Map{}, e
	}
	if e := checkSteps(n); e != api.OK {
		return api.Map{}, e
	}
	if m.Kind != 1 || n.Kind != 1 {
		return api.Map{}, api.ErrMap
	}
	return checkedSteps(moebius(
		add(mul(n.A, m.A), mul(n.B, m.C)), add(mul(n.A, m.B), mul(n.B, m.D)),
		add(mul(n.C, m.A), mul(n.D, m.C)), add(mul(n.C, m.B), mul(n.D, m.D))))
}

func turnedSteps(m api.Map) (api.Map, api.Errno) {
	if e := checkSteps(m); e != api.OK {
		return api.Map{}, e
	}
	if m.Kind != 1 {
		return api.Map{}, api.ErrMap
	}
	return checkedSteps(moebius(m.D, neg(m.B), neg(m.C), m.A))
}

func placesSteps(l three) api.Map {
	a, b, c := l[0], l[1], l[2]
	return moebius(sub(b, c), neg(mul(a, sub(b, c))), sub(b, a), neg(mul(c, sub(b, a))))
}

func threeSteps(from, to three) (api.Map, api.Errno) {
	for _, l := range []three{from, to} {
		for _, z := range l {
			if !within(z) {
				return api.Map{}, api.ErrReal
			}
		}
	}
	for _, l := range []three{from, to} {
		for i := range l {
			for j := range i {
				if like(l[i], l[j]) {
					return api.Map{}, api.ErrMap
				}
			}
		}
	}
	m, e := checkedSteps(placesSteps(from))
	if e != api.OK {
		return api.Map{}, e
	}
	n, e := checkedSteps(placesSteps(to))
	if e != api.OK {
		return api.Map{}, e
	}
	n, e = turnedSteps(n)
	if e != api.OK {
		return api.Map{}, e
	}
	return thenSteps(m, n)
}

func crossSteps(l [4]complex128) (complex128, api.Errno) {
	for _, z := range l {
		if !within(z) {
			return 0, api.ErrReal
		}
	}
	a, b, c, d := l[0], l[1], l[2], l[3]
	t := mul(sub(a, d), sub(b, c))
	if isNought(t) {
		return 0, api.ErrPlace
	}
	return finiteSteps(div(mul(sub(a, c), sub(b, d)), t))
}

// counted sees to it that of what is thrown enough is told, and enough refused with each error.
type counted map[api.Errno]int

func (c counted) want(t *testing.T, atLeast int, errors ...api.Errno) {
	t.Helper()
	for _, e := range errors {
		if c[e] < atLeast {
			t.Errorf("the error %d came %d times", int(e), c[e])
		}
	}
}

func TestP18_1Steps(t *testing.T) {
	d, seen := newDice(), counted{}
	for range 40000 {
		m := d.any()
		e := checkSteps(m)
		seen[e]++
		wantCheck(t, m, e)
	}
	seen.want(t, 1000, api.OK, api.ErrMap, api.ErrReal)
}

func TestP18_2Steps(t *testing.T) {
	d, seen := newDice(), counted{}
	for range 60000 {
		m, z := d.any(), d.number()
		if d.below(20) == 0 {
			z = m.B // where d is nought
		}
		w, e := atSteps(m, z)
		wantAt(t, m, z, w, e)
		seen[e]++
		w, e = slopeSteps(m, z)
		wantSlope(t, m, z, w, e)
		seen[e]++
	}
	seen.want(t, 1000, api.OK, api.ErrMap, api.ErrReal, api.ErrPlace)
}

func TestP18_3Steps(t *testing.T) {
	d, seen := newDice(), counted{}
	for range 60000 {
		m, w := d.any(), d.number()
		if z, e := chart.At(m, w); e == api.OK && d.below(2) == 0 {
			w = z
		}
		for _, other := range []bool{false, true} {
			z, e := backSteps(m, w, other)
			wantBack(t, m, w, other, z, e)
			seen[e]++
		}
	}
	seen.want(t, 400, api.OK, api.ErrMap, api.ErrReal, api.ErrPlace, api.ErrBranch)
}

func TestP18_4Steps(t *testing.T) {
	d, seen := newDice(), counted{}
	for range 60000 {
		m, n := d.any(), d.any()
		if d.below(2) == 0 {
			m.Kind, m.Power, n.Kind, n.Power = 1, 0, 1, real(d.nought())
			m.B, m.C, n.B, n.D = d.place(), d.place(), d.place(), d.place()
		}
		told, e := thenSteps(m, n)
		wantThen(t, m, n, told, e)
		seen[e]++
		told, e = turnedSteps(m)
		wantTurned(t, m, told, e)
	}
	seen.want(t, 1000, api.OK, api.ErrMap, api.ErrReal)
}

func (d *dice) three() (l three) {
	for i := range l {
		l[i] = d.place()
		if d.below(12) == 0 {
			l[i] = d.number()
		}
	}
	if d.below(8) == 0 {
		l[d.below(3)] = l[d.below(3)]
	}
	return l
}

func TestP18_5Steps(t *testing.T) {
	d, seen := newDice(), counted{}
	for range 60000 {
		from, to := d.three(), d.three()
		told, e := threeSteps(from, to)
		wantThree(t, from, to, told, e)
		seen[e]++
	}
	seen.want(t, 1000, api.OK, api.ErrMap, api.ErrReal)
}

func TestP18_6Steps(t *testing.T) {
	d, seen := newDice(), counted{}
	for range 60000 {
		l := [4]complex128{d.place(), d.place(), d.place(), d.place()}
		if d.below(8) == 0 {
			l[d.below(4)] = l[d.below(4)]
		}
		if d.below(4) == 0 {
			l[d.below(4)] = d.number()
		}
		told, e := crossSteps(l)
		wantCross(t, l, told, e)
		seen[e]++
	}
	seen.want(t, 500, api.OK, api.ErrPlace, api.ErrReal)
}
