package image_test

import (
	"math"
	"testing"

	"eddy/api"
	"eddy/element"
	"eddy/flow"
	"eddy/image"
	"eddy/roots"
)

// The operations as calls that are not inlined: none of them can be fused with another one.

//go:noinline
func plus(x, y float64) float64 { return x + y }

//go:noinline
func minus(x, y float64) float64 { return x - y }

//go:noinline
func times(x, y float64) float64 { return x * y }

//go:noinline
func over(x, y float64) float64 { return x / y }

// The functions below are chapter 2's words, one operation a call.

func add(a, b complex128) complex128 {
	return complex(plus(real(a), real(b)), plus(imag(a), imag(b)))
}

func sub(a, b complex128) complex128 {
	return complex(minus(real(a), real(b)), minus(imag(a), imag(b)))
}

func mul(a, b complex128) complex128 {
	return complex(minus(times(real(a), real(b)), times(imag(a), imag(b))), plus(times(real(a), imag(b)), times(imag(a), real(b))))
}

func div(a, b complex128) complex128 {
	p, q, r, s := real(a), imag(a), real(b), imag(b)
	if math.Abs(r) >= math.Abs(s) {
		k := over(s, r)
		t := plus(r, times(s, k))
		return complex(over(plus(p, times(q, k)), t), over(minus(q, times(p, k)), t))
	}
	k := over(r, s)
	t := plus(times(r, k), s)
	return complex(over(plus(times(p, k), q), t), over(minus(times(q, k), p), t))
}

func scale(a complex128, by float64) complex128 {
	return complex(times(real(a), by), times(imag(a), by))
}

func conj(a complex128) complex128 { return complex(real(a), -imag(a)) }

func neg(a complex128) complex128 { return complex(-real(a), -imag(a)) }

// wholePower has each power that comes up here as the products that its binary digits tell.
func wholePower(a complex128, n int) complex128 {
	if n == 1 {
		return a
	}
	x := wholePower(a, n/2)
	x = mul(x, x)
	if n%2 == 1 {
		x = mul(x, a)
	}
	return x
}

func within(a complex128) bool {
	return math.Abs(real(a)) <= farthest && math.Abs(imag(a)) <= farthest
}

// The functions below are the chapter's words.

func circleMayBe(c api.Circle) bool {
	return within(c.Centre) && nearest <= c.Radius && c.Radius <= farthest
}

func isAbove(at, u, z complex128) bool { return imag(mul(conj(u), sub(z, at))) > 0 }

func acrossSteps(at, u, z complex128) complex128 {
	return add(at, mul(mul(u, u), conj(sub(z, at))))
}

func placeSteps(c api.Circle, z complex128) complex128 {
	return add(c.Centre, div(complex(times(c.Radius, c.Radius), 0), conj(sub(z, c.Centre))))
}

// answeredSteps are the errors of what is answered: first that of how many there are.
func answeredSteps(f api.Flow) (api.Flow, api.Errno) {
	if len(f.Elements) > many {
		return api.Flow{}, api.ErrMany
	}
	for _, x := range f.Elements {
		if e := element.Check(x); e != api.OK {
			return api.Flow{}, e
		}
	}
	return f, api.OK
}

func wallSteps(f api.Flow, at, way complex128) (api.Flow, api.Errno) {
	if e := flow.Check(f); e != api.OK {
		return api.Flow{}, e
	}
	if !within(at) || !within(way) {
		return api.Flow{}, api.ErrReal
	}
	u, ok := roots.Unit(way)
	if !ok {
		return api.Flow{}, api.ErrWall
	}
	var own, images api.Flow
	for _, x := range f.Elements {
		if x.Kind == api.Corner || x.Kind != api.Stream && !isAbove(at, u, x.At) {
			return api.Flow{}, api.ErrWall
		}
		y := x
		if x.Kind == api.Stream {
			y.Strength = scale(conj(u), real(mul(x.Strength, u)))
		}
		own.Elements = append(own.Elements, y)
		y.At = acrossSteps(at, u, x.At)
		y.Strength = conj(x.Strength)
		if x.Kind == api.Doublet {
			y.Strength = mul(y.Strength, wholePower(u, 2*int(x.Power)))
		}
		if x.Kind != api.Stream {
			images.Elements = append(images.Elements, y)
		}
	}
	return answeredSteps(joined(own, images))
}

// chosen has in row n and column k how many ways there are to choose k of n.
func chosen() [9][9]float64 {
	var rows [9][9]float64
	for n := range rows {
		rows[n][0] = 1
		for k := 1; k <= n; k++ {
			rows[n][k] = rows[n-1][k-1] + rows[n-1][k]
		}
	}
	return rows
}

func circleImages(x api.Element, c api.Circle) (images []api.Element) {
	o, square := c.Centre, times(c.Radius, c.Radius)
	turned := conj(x.Strength)
	switch x.Kind {
	case api.Stream:
		return []api.Element{doublet(o, scale(turned, square), 1)}
	case api.Source:
		return []api.Element{source(placeSteps(c, x.At), turned), source(o, neg(turned))}
	}
	n := int(x.Power)
	b := div(complex(square, 0), conj(sub(x.At, o)))
	g := div(-1, conj(sub(x.At, o)))
	h := mul(turned, wholePower(g, n))
	for k := 1; k <= n; k++ {
		images = append(images, doublet(placeSteps(c, x.At), scale(mul(h, wholePower(b, k)), chosen()[n][k]), float64(k)))
	}
	return images
}

func circleSteps(f api.Flow, c api.Circle) (api.Flow, api.Errno) {
	if e := flow.Check(f); e != api.OK {
		return api.Flow{}, e
	}
	if !circleMayBe(c) {
		return api.Flow{}, api.ErrReal
	}
	var images api.Flow
	for _, x := range f.Elements {
		if x.Kind == api.Corner || x.Kind != api.Stream && !(roots.Length(sub(x.At, c.Centre)) > c.Radius) {
			return api.Flow{}, api.ErrWall
		}
		images.Elements = append(images.Elements, circleImages(x, c)...)
	}
	return answeredSteps(joined(f, images))
}

func throughSteps(f api.Flow, l, ways list) (float64, api.Errno) {
	most := 0.0
	for i, z := range l {
		v, e := flow.Speed(f, z)
		if e != api.OK {
			return 0, e
		}
		u, _ := roots.Unit(ways[i])
		if s := math.Abs(imag(mul(v, u))); s > most {
			most = s
		}
	}
	if most > greatest {
		return 0, api.ErrPlace
	}
	return most, api.OK
}

// above moves an element, where it would be below a wall.
func above(x api.Element, at, way complex128) api.Element {
	u, _ := roots.Unit(way)
	if x.Kind != api.Stream && !isAbove(at, u, x.At) {
		x.At = sub(at, sub(x.At, at))
	}
	return x
}

// outside moves an element, where it would be within a circle.
func (d *dice) outside(x api.Element, c api.Circle) api.Element {
	if x.Kind != api.Stream && !(roots.Length(sub(x.At, c.Centre)) > c.Radius) {
		x.At = add(c.Centre, scale(complex(d.part(-1, 2), d.part(-1, 2)), 2*c.Radius))
	}
	return x
}

func TestP17_1BySteps(t *testing.T) {
	d := newDice()
	var told [291]int
	for range 60000 {
		at, way := d.place(), d.way()
		f := d.flow(d.below(6), func() api.Element {
			if d.below(20) == 0 {
				return d.element() // above the wall or below
			}
			return above(d.element(), at, way)
		})
		if d.below(20) == 0 {
			f.Elements = append(f.Elements, d.corner())
		}
		ought, e := wallSteps(f, at, way)
		wantWall(t, f, at, way, ought, e)
		told[e]++
	}
	if told[api.OK] < 30000 || told[api.ErrWall] < 3000 || told[api.ErrReal] < 300 {
		t.Errorf("only %d, %d, %d", told[api.OK], told[api.ErrWall], told[api.ErrReal])
	}
}

func TestP17_2BySteps(t *testing.T) {
	d := newDice()
	var told [291]int
	for range 60000 {
		c := d.circle()
		f := d.flow(d.below(6), func() api.Element {
			if d.below(20) == 0 {
				return d.element() // inside or outside
			}
			return d.outside(d.element(), c)
		})
		if d.below(20) == 0 {
			f.Elements = append(f.Elements, d.corner())
		}
		ought, e := circleSteps(f, c)
		wantCircle(t, f, c, ought, e)
		told[e]++
	}
	if told[api.OK] < 30000 || told[api.ErrWall] < 3000 || told[api.ErrReal] < 300 {
		t.Errorf("only %d, %d, %d", told[api.OK], told[api.ErrWall], told[api.ErrReal])
	}
}

func TestP17_3BySteps(t *testing.T) {
	d := newDice()
	for range 60000 {
		c, z := d.circle(), d.place()
		if ought := placeSteps(c, z); isFinite(ought) {
			wantPlace(t, c, z, ought, api.OK)
		} else {
			wantPlace(t, c, z, 0, api.ErrPlace)
		}
		at, way := d.place(), d.way()
		if u, ok := roots.Unit(way); ok {
			wantAcross(t, at, way, z, acrossSteps(at, u, z), api.OK)
		} else {
			wantAcross(t, at, way, z, 0, api.ErrWall)
		}
	}
}

func TestP17_4BySteps(t *testing.T) {
	d := newDice()
	gone, moves := 0, 0
	for range 30000 {
		f := d.flow(d.below(5), func() api.Element {
			if d.below(5) == 0 {
				return d.corner()
			}
			return d.element()
		})
		var l, ways list
		for range d.below(6) {
			z, way := d.place(), d.way()
			if len(f.Elements) > 0 && d.below(20) == 0 {
				z = f.Elements[d.below(len(f.Elements))].At
			}
			if !like(way, 0) {
				l, ways = append(l, z), append(ways, way)
			}
		}
		ought, e := throughSteps(f, l, ways)
		wantThrough(t, f, l, ways, ought, e)
		if e != api.OK {
			gone++
		} else if ought > 0 {
			moves++
		}
	}
	if gone < 1000 || moves < 15000 {
		t.Errorf("only %d without a speed, %d that go through", gone, moves)
	}
}

// A border's images put together with it again: what was answered is handed in.
func TestP17_1ImagesOfImages(t *testing.T) {
	d := newDice()
	for range 3000 {
		f := d.flow(d.below(4), func() api.Element { return above(d.element(), 0, 1) })
		g, e := image.Wall(f, 0, 1)
		if e != api.OK {
			continue
		}
		ought, e := wallSteps(g, -100i, 1)
		wantWall(t, g, -100i, 1, ought, e)
		ought, e = circleSteps(g, about(-200i, 3))
		wantCircle(t, g, about(-200i, 3), ought, e)
	}
}
