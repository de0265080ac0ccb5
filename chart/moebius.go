package chart

import (
	"eddy/api"
	"eddy/parts"
)

// Then is the Moebius map that is m, and n behind it.
func Then(m, n api.Map) (api.Map, api.Errno) {
	for _, x := range [...]api.Map{m, n} {
		if e := Check(x); e != api.OK {
			return api.Map{}, e
		}
	}
	if m.Kind != api.MapMoebius || n.Kind != api.MapMoebius {
		return api.Map{}, api.ErrMap
	}
	return checked(moebius(
		twice(n.A, m.A, n.B, m.C),
		twice(n.A, m.B, n.B, m.D),
		twice(n.C, m.A, n.D, m.C),
		twice(n.C, m.B, n.D, m.D),
	))
}

// Turned is the Moebius map that takes back.
func Turned(m api.Map) (api.Map, api.Errno) {
	if e := Check(m); e != api.OK {
		return api.Map{}, e
	}
	if m.Kind != api.MapMoebius {
		return api.Map{}, api.ErrMap
	}
	return checked(moebius(m.D, parts.Neg(m.B), parts.Neg(m.C), m.A))
}

// Three is the Moebius map that takes three places to three places: those of from to 0, 1 and nowhere, and from there to those of to.
func Three(from, to [3]complex128) (api.Map, api.Errno) {
	if !arePlaces(from) || !arePlaces(to) {
		return api.Map{}, api.ErrReal
	}
	if twoAlike(from) || twoAlike(to) {
		return api.Map{}, api.ErrMap
	}
	there, e := checked(ofPlaces(from))
	if e != api.OK {
		return api.Map{}, e
	}
	onward, e := checked(ofPlaces(to))
	if e != api.OK {
		return api.Map{}, e
	}
	onward, e = Turned(onward)
	if e != api.OK {
		return api.Map{}, e
	}
	return Then(there, onward)
}

// Cross is the cross ratio of four places.
func Cross(a, b, c, d complex128) (complex128, api.Errno) {
	for _, z := range [...]complex128{a, b, c, d} {
		if !isPlace(z) {
			return 0, api.ErrReal
		}
	}
	t := parts.Mul(parts.Sub(a, d), parts.Sub(b, c))
	if isNought(t) {
		return 0, api.ErrPlace
	}
	ratio := parts.Div(parts.Mul(parts.Sub(a, c), parts.Sub(b, d)), t)
	if !parts.Finite(ratio) {
		return 0, api.ErrPlace
	}
	return ratio, api.OK
}

func (m plan) mayMoebius() bool { return !isNought(m.determinant()) && m.Power == 0 }

func (m plan) determinant() complex128 {
	return parts.Sub(parts.Mul(m.A, m.D), parts.Mul(m.B, m.C))
}

// below is what the map divides by at z.
func (m plan) below(z complex128) complex128 { return parts.Add(parts.Mul(m.C, z), m.D) }

func (m plan) moebius(z complex128) (complex128, api.Errno) {
	t := m.below(z)
	if isNought(t) {
		return 0, api.ErrPlace
	}
	return parts.Div(parts.Add(parts.Mul(m.A, z), m.B), t), api.OK
}

func (m plan) moebiusSlope(z complex128) (complex128, api.Errno) {
	t := m.below(z)
	if isNought(t) {
		return 0, api.ErrPlace
	}
	return parts.Div(m.determinant(), parts.Whole(t, 2)), api.OK
}

func (m plan) moebiusBack(w complex128) (complex128, api.Errno) {
	g := parts.Sub(m.A, parts.Mul(m.C, w))
	if isNought(g) {
		return 0, api.ErrBranch
	}
	return parts.Div(parts.Sub(parts.Mul(m.D, w), m.B), g), api.OK
}

// moebius is the Moebius map of four numbers, which may be none.
func moebius(a, b, c, d complex128) api.Map {
	return api.Map{Kind: api.MapMoebius, A: a, B: b, C: c, D: d}
}

// checked is the map itself, where it may be.
func checked(m api.Map) (api.Map, api.Errno) {
	if e := Check(m); e != api.OK {
		return api.Map{}, e
	}
	return m, api.OK
}

// twice is the sum of two products.
func twice(a, b, c, d complex128) complex128 {
	return parts.Add(parts.Mul(a, b), parts.Mul(c, d))
}

// ofPlaces is the Moebius map that takes three places to 0, 1 and nowhere.
func ofPlaces(places [3]complex128) api.Map {
	a, b, c := places[0], places[1], places[2]
	up, down := parts.Sub(b, c), parts.Sub(b, a)
	return moebius(up, parts.Neg(parts.Mul(a, up)), down, parts.Neg(parts.Mul(c, down)))
}

func arePlaces(places [3]complex128) bool {
	for _, z := range places {
		if !isPlace(z) {
			return false
		}
	}
	return true
}

func twoAlike(places [3]complex128) bool {
	a, b, c := places[0], places[1], places[2]
	return parts.Like(a, b) || parts.Like(b, c) || parts.Like(a, c)
}
