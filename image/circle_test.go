package image_test

import (
	"math"
	"testing"

	"eddy/api"
	"eddy/image"
)

// noCircles are circles that may not be.
func noCircles() []api.Circle {
	var l []api.Circle
	for _, o := range noPlaces {
		l = append(l, about(o, 1))
	}
	for _, radius := range []float64{0, minusNought, -1, least, math.Nextafter(nearest, 0), beyond, greatest, infinite, -infinite, none} {
		l = append(l, about(0, radius), about(1-2i, radius), about(noPlaces[0], radius))
	}
	return l
}

// edgeCircles may be, though just so.
func edgeCircles() []api.Circle {
	var l []api.Circle
	for _, o := range append(append(list{1 - 2i}, noughts...), edgePlaces...) {
		l = append(l, about(o, nearest), about(o, farthest), about(o, math.Nextafter(nearest, 1)), about(o, math.Nextafter(farthest, 1)), about(o, 1))
	}
	return l
}

func TestP17_2FlowFirst(t *testing.T) {
	for _, r := range refused() {
		wantCircle(t, r.f, about(0, 1), api.Flow{}, r.e)
		wantCircle(t, r.f, about(9i, 20), api.Flow{}, r.e)
		for _, c := range noCircles() {
			wantCircle(t, r.f, c, api.Flow{}, r.e)
		}
	}
}

func TestP17_2NoCircle(t *testing.T) {
	for _, f := range []api.Flow{of(), of(stream(1)), of(source(9i, 1)), of(source(0, 1)), of(corner(9i, 1, 2)), repeated(many, source(9i, 1))} {
		for _, c := range noCircles() {
			wantCircle(t, f, c, api.Flow{}, api.ErrReal)
		}
	}
	for _, c := range edgeCircles() {
		wantCircle(t, of(), c, of(), api.OK)
		wantCircle(t, of(stream(0)), c, of(stream(0), doublet(c.Centre, complex(0, minusNought), 1)), api.OK)
		tiny := stream(0x1p-60 - 0x1p-61i)
		wantCircle(t, of(tiny), c, of(tiny, doublet(c.Centre, scale(0x1p-60+0x1p-61i, c.Radius*c.Radius), 1)), api.OK)
	}
}

// Outside of the circle, if only just; within it and on it is no place for a Source or a Doublet.
func TestP17_2Outside(t *testing.T) {
	next := func(x float64) float64 { return math.Nextafter(x, infinite) }
	ahead := func(x float64) float64 { return math.Nextafter(x, -infinite) }
	for _, c := range []struct {
		c       api.Circle
		z       complex128
		outside bool
	}{
		{about(0, 2), 2, false}, {about(0, 2), complex(next(2), 0), true}, {about(0, 2), complex(ahead(2), 0), false}, {about(0, 2), 0, false}, {about(0, 2), 1, false},
		{about(0, 2), -2i, false}, {about(0, 2), complex(0, -next(2)), true}, {about(0, 2), complex(-next(2), minusNought), true}, {about(0, 2), complex(0, ahead(2)), false},
		{about(0, 5), 3 + 4i, false}, {about(0, 5), complex(3, next(4)), true}, {about(0, 5), complex(3, ahead(4)), false}, {about(0, ahead(5)), -4 + 3i, true}, {about(0, next(5)), -4 + 3i, false},
		{about(1i, 1), 2i, false}, {about(1i, 1), complex(0, next(2)), true}, {about(1i, 1), 0, false}, {about(1i, 1), complex(0, -least), false}, // that is lost
		{about(1i, 1), complex(0, -0x1p-52), true}, {about(1i, 1), 1i, false}, {about(1i, 1), 1 + 1i, false}, {about(1i, 1), 1.5, true},
		{about(0, nearest), complex(nearest, 0), false}, {about(0, nearest), complex(next(nearest), 0), true}, {about(0, nearest), complex(0, -1), true}, {about(0, nearest), 0, false},
		{about(0, farthest), farthest, false}, {about(0, farthest), complex(farthest, 1), false}, {about(0, farthest), complex(farthest, farthest), true}, {about(0, ahead(farthest)), farthest, true},
		// The squares together are more than the Radius' square, but the length, which is rounded once more, is just the Radius.
		{about(0, 0x1.d4dd33e312d0bp+0), 0x1.0a1ceeb73f1efp-1 + 0x1.c1968f8685ed5p+0i, false}, {about(0, 0x1.283f5370330b3p+1), 0x1.73c957974722cp+0 - 0x1.cd54536c70aa8p+0i, false},
		{about(complex(farthest, farthest), farthest), complex(-farthest, -farthest), true}, {about(farthest, farthest), 0, false}, {about(farthest, farthest), -0x1p-12, true},
	} {
		for _, x := range []api.Element{source(c.z, 1+2i), source(c.z, 0), doublet(c.z, 0x1p-60i, 1), doublet(c.z, 0, 8)} {
			for _, f := range []api.Flow{of(x), of(stream(0), x, stream(0)), of(x, x)} {
				ought, e := circleSteps(f, c.c)
				if refused := e == api.ErrWall; refused == c.outside {
					t.Fatalf("%x, %x: outside is %t", c.z, c.c, c.outside)
				}
				wantCircle(t, f, c.c, ought, e)
			}
		}
	}
}

func TestP17_2OneInside(t *testing.T) {
	for _, x := range []api.Element{source(0.5, 1), source(1i, 0), doublet(0, 1, 1), doublet(-1, 1, 8), corner(2i, 1, 2), corner(2i, 0, 0.25), corner(0, 1, 4), corner(-9, 1, 1)} {
		for _, n := range []int{1, 2, 3, 100, many} {
			for _, k := range []int{0, n / 2, n - 1} {
				for _, beside := range []api.Element{stream(1), source(2i, 1), doublet(2i, 1i, 3)} {
					f := repeated(n, beside)
					f.Elements[k] = x
					wantCircle(t, f, about(0, 1), api.Flow{}, api.ErrWall)
				}
			}
		}
	}
}

// The elements as they are, then the images of the first one, of the second one, and so on.
func TestP17_2Order(t *testing.T) {
	c := about(1i, 2)
	a, b, s, w := source(4+1i, 1+1i), doublet(-4+1i, 2-1i, 2), stream(2-1i), doublet(5i, 8i, 1)
	aImages := []api.Element{source(1+1i, 1-1i), source(1i, -1+1i)}
	// Of b the distances are -4, b is -1, g 0.25, h (2 + i) / 16.
	bImages := []api.Element{doublet(-1+1i, (2+1i)/-8, 1), doublet(-1+1i, (2+1i)/16, 2)}
	sImage := []api.Element{doublet(1i, 8+4i, 1)}
	// Of w the distance is 4i, mirrored -4i; b is i, g -0.25i, h -2.
	wImage := []api.Element{doublet(2i, -2i, 1)}
	for _, r := range []struct {
		f      []api.Element
		images [][]api.Element
	}{
		{nil, nil},
		{[]api.Element{a}, [][]api.Element{aImages}},
		{[]api.Element{b}, [][]api.Element{bImages}},
		{[]api.Element{s}, [][]api.Element{sImage}},
		{[]api.Element{w}, [][]api.Element{wImage}},
		{[]api.Element{a, b}, [][]api.Element{aImages, bImages}},
		{[]api.Element{b, a}, [][]api.Element{bImages, aImages}},
		{[]api.Element{s, w, b, s, a}, [][]api.Element{sImage, wImage, bImages, sImage, aImages}},
		{[]api.Element{a, a, a}, [][]api.Element{aImages, aImages, aImages}},
	} {
		f, ought := of(r.f...), of(r.f...)
		for _, l := range r.images {
			ought = joined(ought, of(l...))
		}
		if got, e := image.Circle(f, c); e != api.OK || !likeFlows(got, ought) {
			t.Errorf("Circle of %v: %v, %d, not %v", f, got, int(e), ought)
		}
		told, _ := circleSteps(f, c)
		wantCircle(t, f, c, told, api.OK)
	}
}

// What the elements have stays; what is new has noughts without a minus where nothing is said, but the centre is as it is.
func TestP17_2Noughts(t *testing.T) {
	for _, o := range noughts {
		c := about(o, 2)
		for _, power := range []float64{0, minusNought} {
			for _, s := range append(append(list{}, noughts...), 1+1i, complex(minusNought, 3)) {
				x := api.Element{Kind: api.Stream, At: noughts[2], Strength: s, Power: power}
				wantCircle(t, of(x), c, of(x, doublet(o, scale(conj(s), 4), 1)), api.OK)
				x = api.Element{Kind: api.Source, At: complex(4, minusNought), Strength: s, Power: power}
				y := source(placeSteps(c, x.At), conj(s))
				wantCircle(t, of(x), c, of(x, y, source(o, complex(-real(s), imag(s)))), api.OK)
			}
		}
	}
	x := api.Element{Kind: api.Source, At: 4, Strength: 1 + 1i, Power: minusNought}
	wantCircle(t, of(x), about(0, 2), of(x, source(1, 1-1i), source(0, -1+1i)), api.OK)
}

// An n fold Doublet at 4, the circle of the radius 2: b is 1, g is -0.25, so the images have as strengths (-0.25)^n times what Pascal's triangle tells.
func TestP17_2Folds(t *testing.T) {
	for n, row := range [][]complex128{{}, {1}, {2, 1}, {3, 3, 1}, {4, 6, 4, 1}, {5, 10, 10, 5, 1}, {6, 15, 20, 15, 6, 1}, {7, 21, 35, 35, 21, 7, 1}, {8, 28, 56, 70, 56, 28, 8, 1}} {
		if n == 0 {
			continue
		}
		x := doublet(4, 0x1p16, float64(n))
		ought := of(x)
		h := complex(math.Ldexp([]float64{1, -1}[n%2], 16-2*n), 0)
		for i, c := range row {
			ought.Elements = append(ought.Elements, doublet(1, h*c, float64(i+1)))
		}
		got, e := image.Circle(of(x), about(0, 2))
		if e != api.OK || !likeFlows(got, ought) {
			t.Errorf("Circle of %v: %v, %d, not %v", x, got, int(e), ought)
		}
		told, _ := circleSteps(of(x), about(0, 2))
		wantCircle(t, of(x), about(0, 2), told, api.OK)
	}
}

// A Stream has one image, a Source two, an n fold Doublet n.
func TestP17_2Many(t *testing.T) {
	c := about(0, 1)
	single := func(n int) api.Flow { return repeated(n, source(2i, 1)) }
	fold := func(n, k int) api.Flow { return repeated(n, doublet(2i, 1, float64(k))) }
	streams := func(n int) api.Flow { return repeated(n, stream(1)) }
	for _, f := range []api.Flow{
		streams(128),
		joined(single(84), streams(2)), joined(streams(2), single(84)),
		fold(128, 1), joined(fold(85, 2), single(0)), fold(64, 3), fold(51, 4), joined(fold(42, 5), fold(1, 3)), joined(fold(36, 6), streams(2)), fold(32, 7),
		joined(fold(28, 8), streams(2)), joined(single(40), fold(10, 8), streams(23)),
	} {
		ought, e := circleSteps(f, c)
		if len(ought.Elements) < many-1 || e != api.OK {
			t.Fatalf("%d elements, %d", len(ought.Elements), int(e))
		}
		wantCircle(t, f, c, ought, api.OK)
		for _, more := range []api.Flow{streams(1), single(1), fold(1, 1), fold(1, 8)} {
			if len(ought.Elements) == many { // not those of 255
				wantCircle(t, joined(f, more), c, api.Flow{}, api.ErrMany)
				wantCircle(t, joined(more, f), c, api.Flow{}, api.ErrMany)
			}
		}
	}
	wantCircle(t, joined(single(85), streams(1)), c, api.Flow{}, api.ErrMany) // 257
	wantCircle(t, joined(fold(28, 8), single(1), streams(1)), c, api.Flow{}, api.ErrMany)
	for _, f := range []api.Flow{streams(129), streams(many), single(86), single(many), fold(29, 8), fold(many, 8), joined(streams(255), single(1))} {
		wantCircle(t, f, c, api.Flow{}, api.ErrMany)
	}
}

// What may not be among what would be answered, each with its circle.
func lostAtCircle() []struct {
	x api.Element
	c api.Circle
} {
	return []struct {
		x api.Element
		c api.Circle
	}{
		{stream(1), about(0, 0x1p21)},                  // the Doublet is too strong
		{stream(complex(0, 1)), about(3, 0x1.0001p20)}, // just so
		{stream(farthest), about(0, 2)},                // this one, too
		{doublet(1.1, farthest, 2), about(0, 1)},       // the first one of two
		{doublet(1.345, farthest*1i, 4), about(0, 1)},  // the second one of four, for the 6 of Pascal's row
		{doublet(0x1p-20, 1, 8), about(0, 0x1p-21)},    // all of them
		{doublet(0x1p-20, 2, 3), about(0, 0x1p-21)},    // the first one
	}
}

func TestP17_2ImagesThatMayNotBe(t *testing.T) {
	for i, c := range lostAtCircle() {
		if _, e := circleSteps(of(c.x), c.c); e != api.ErrReal {
			t.Errorf("%d: %d", i, int(e))
		}
		good := source(add(c.c.Centre, complex(0, 3*c.c.Radius)), 1)
		for _, f := range []api.Flow{of(c.x), of(good, c.x), of(c.x, good), of(stream(0), c.x, good), joined(of(c.x), repeated(80, good))} {
			wantCircle(t, f, c.c, api.Flow{}, api.ErrReal)
		}
		// What lies within, or a Corner, counts ahead of it, behind the element too; so do too many elements.
		wantCircle(t, of(c.x, corner(good.At, 1, 2)), c.c, api.Flow{}, api.ErrWall)
		wantCircle(t, of(c.x, source(c.c.Centre, 1)), c.c, api.Flow{}, api.ErrWall)
		wantCircle(t, joined(of(c.x), repeated(many-1, good)), c.c, api.Flow{}, api.ErrMany)
		wantCircle(t, joined(repeated(86, good), of(c.x)), c.c, api.Flow{}, api.ErrMany)
		wantCircle(t, joined(repeated(many-1, good), of(source(c.c.Centre, 1))), c.c, api.Flow{}, api.ErrWall)
	}
	// Just so they may be.
	wantCircle(t, of(stream(1)), about(0, 0x1p20), of(stream(1), doublet(0, complex(farthest, minusNought), 1)), api.OK)
	wantCircle(t, of(stream(farthest*1i)), about(0, 1), of(stream(farthest*1i), doublet(0, complex(0, -farthest), 1)), api.OK)
	wantCircle(t, of(stream(farthest)), about(0, math.Nextafter(1, 2)), api.Flow{}, api.ErrReal)
	// An image that comes to lie beyond all places, by the rounding of a quotient.
	c, at := about(0x1.354d5c204ea20p+17+0x1.8e70a46039550p+19i, 0x1.fffffef2c5942p+39), complex(farthest, 0x1.f2938bc3d80ccp+28)
	wantCircle(t, of(source(at, 1)), c, api.Flow{}, api.ErrReal)
	wantCircle(t, of(doublet(at, 1, 1)), c, api.Flow{}, api.ErrReal)
	wantPlace(t, c, at, placeSteps(c, at), api.OK)
	if real(placeSteps(c, at)) != beyond {
		t.Errorf("%x", placeSteps(c, at))
	}
}
