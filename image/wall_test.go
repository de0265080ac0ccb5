package image_test

import (
	"math"
	"testing"

	"eddy/api"
	"eddy/image"
)

// refused are flows that may not be, with the error of each.
func refused() []struct {
	f api.Flow
	e api.Errno
} {
	return []struct {
		f api.Flow
		e api.Errno
	}{
		{of(api.Element{}), api.ErrElement},
		{of(api.Element{Kind: 5}), api.ErrElement},
		{of(api.Element{Kind: api.Stream, At: 1}), api.ErrElement},
		{of(api.Element{Kind: api.Source, At: 9i, Power: 1}), api.ErrElement},
		{of(doublet(9i, 1, 9)), api.ErrElement},
		{of(stream(complex(0, none))), api.ErrReal},
		{of(source(complex(beyond, 1), 1)), api.ErrReal},
		{repeated(many+1, stream(1)), api.ErrFlow},
		{repeated(many+1, corner(0, 1, 9)), api.ErrFlow},
		// Corners may not be beside a border: but first of all the whole flow must be one.
		{of(corner(9i, 1, 2), corner(9i, 1, 5)), api.ErrElement},
		{of(source(-9i, 1), stream(complex(infinite, 0))), api.ErrReal},
		{joined(repeated(200, source(9i, 1)), of(api.Element{})), api.ErrElement},
	}
}

func TestP17_1FlowFirst(t *testing.T) {
	for _, r := range refused() {
		for _, way := range append(append(list{1, 3 - 4i}, noughts...), noPlaces...) {
			wantWall(t, r.f, 0, way, api.Flow{}, r.e)
			wantWall(t, r.f, way, 1, api.Flow{}, r.e)
			wantWall(t, r.f, way, way, api.Flow{}, r.e)
		}
	}
}

func TestP17_1NoPlace(t *testing.T) {
	for _, f := range []api.Flow{of(), of(stream(1)), of(source(9i, 1)), of(source(-9i, 1)), of(corner(9i, 1, 2)), repeated(many, source(9i, 1))} {
		for _, z := range noPlaces {
			wantWall(t, f, z, 1, api.Flow{}, api.ErrReal)
			wantWall(t, f, 0, z, api.Flow{}, api.ErrReal)
			wantWall(t, f, z, z, api.Flow{}, api.ErrReal)
			for _, way := range noughts { // ahead of a way without a unit
				wantWall(t, f, z, way, api.Flow{}, api.ErrReal)
			}
		}
	}
	for _, z := range edgePlaces {
		wantWall(t, of(stream(1)), z, 1, of(stream(complex(1, minusNought))), api.OK)
		wantWall(t, of(), 0, z, of(), api.OK)
		wantWall(t, of(), z, z, of(), api.OK)
	}
}

func TestP17_1NoWay(t *testing.T) {
	for _, f := range []api.Flow{of(), of(stream(1)), of(source(9i, 1)), of(corner(9i, 1, 2)), repeated(many, source(9i, 1))} {
		for _, way := range noughts {
			for _, at := range append(append(list{1 - 2i}, noughts...), edgePlaces...) {
				wantWall(t, f, at, way, api.Flow{}, api.ErrWall)
			}
		}
	}
}

func TestP17_1WayOfAnyLength(t *testing.T) {
	d := newDice()
	for range 300 {
		way := complex(d.part(-3, 3), d.part(-3, 3))
		f := d.flow(4, func() api.Element { return above(d.element(), 1-1i, way) })
		ought, e := image.Wall(f, 1-1i, way)
		for _, by := range []float64{0x1p36, 0x1p-40, 0x1p-900, 0x1p-1000} {
			wantWall(t, f, 1-1i, scale(way, by), ought, e)
		}
	}
	up := of(source(-1, 1))
	for _, length := range []float64{least, 3 * least, 0x1p-1022, 1, 7, farthest} {
		wantWall(t, up, 0, complex(0, length), of(source(-1, 1), source(1, complex(1, minusNought))), api.OK)
		wantWall(t, up, 0, complex(0, -length), api.Flow{}, api.ErrWall)
		wantWall(t, up, 0, complex(length, 0), api.Flow{}, api.ErrWall)
	}
}

// Above the wall, if only just; on it and below it is no place for a Source or a Doublet.
func TestP17_1Above(t *testing.T) {
	for _, c := range []struct {
		at, way, z complex128
		above      bool
	}{
		{0, 1, 1i, true}, {0, 1, complex(5, least), true}, {0, 1, 5, false}, {0, 1, complex(5, minusNought), false},
		{0, 1, 0, false}, {0, 1, complex(5, -least), false}, {0, 1, complex(farthest, least), true}, {0, 1, -1i, false},
		{0, -1, -1i, true}, {0, -1, 1i, false}, {0, -1, complex(3, -least), true}, {0, -1, 3, false},
		{0, 1i, -1, true}, {0, 1i, 1, false}, {0, 1i, complex(-least, 2), true}, {0, 1i, complex(least, 2), false},
		{0, -1i, 1, true}, {0, -1i, -1, false}, {0, -1i, 2i, false},
		{2i, 1, 2i, false}, {2i, 1, 1i, false}, {2i, 1, complex(0, math.Nextafter(2, 3)), true}, {2i, 1, complex(0, math.Nextafter(2, 1)), false},
		{5, 1i, complex(math.Nextafter(5, 0), 7), true}, {5, 1i, 5 + 7i, false}, {5, 1i, complex(math.Nextafter(5, 9), 7), false},
		{0, 1 + 1i, 3 + 3i, false}, {0, 1 + 1i, complex(3, math.Nextafter(3, 4)), true}, {0, 1 + 1i, complex(3, math.Nextafter(3, 0)), false},
		{0, 1 + 1i, complex(math.Nextafter(3, 0), 3), true}, {1 + 1i, 1 + 1i, -2 - 2i, false}, {1 + 1i, -1 - 1i, 2 + 1i, true}, {1 + 1i, 1 + 1i, 2 + 1i, false},
		{complex(farthest, farthest), 1, complex(0, farthest), false}, {complex(farthest, -farthest), 1, complex(0, farthest), true},
	} {
		for _, x := range []api.Element{source(c.z, 1+2i), source(c.z, 0), doublet(c.z, 1i, 1), doublet(c.z, 0, 8)} {
			for _, f := range []api.Flow{of(x), of(stream(1), x, stream(2)), of(x, x)} {
				ought, e := wallSteps(f, c.at, c.way)
				if refused := e == api.ErrWall; refused == c.above {
					t.Fatalf("%x, the wall at %x along %x: above is %t", c.z, c.at, c.way, c.above)
				}
				wantWall(t, f, c.at, c.way, ought, e)
			}
		}
	}
}

// One element on the wrong side, be it the first one, the last one or one amid others.
func TestP17_1OneBelow(t *testing.T) {
	for _, x := range []api.Element{source(-1i, 1), source(3, 0), doublet(complex(0, -least), 1, 8), corner(1i, 1, 2), corner(1i, 0, 0.25), corner(-1i, 1, 4), corner(0, 1, 1)} {
		for _, n := range []int{1, 2, 3, 100, many} {
			for _, k := range []int{0, n / 2, n - 1} {
				for _, beside := range []api.Element{stream(1), source(1i, 1), doublet(2i, 1i, 3)} {
					f := repeated(n, beside)
					f.Elements[k] = x
					wantWall(t, f, 0, 1, api.Flow{}, api.ErrWall)
				}
			}
		}
	}
}

// A Stream keeps its part along the wall, whatever else it has stays as it was, and there is no image of it.
func TestP17_1Streams(t *testing.T) {
	minus := complex(3, minusNought)
	for _, c := range []struct{ s, way, ought complex128 }{
		{3 + 4i, 1, minus}, {3 + 4i, 2, minus}, {3 + 4i, farthest, minus}, {3 + 4i, complex(1, minusNought), 3},
		{3 + 4i, -1, 3}, {3 + 4i, complex(-1, minusNought), minus},
		{3 + 4i, 1i, complex(minusNought, 4)}, {3 + 4i, -1i, 4i}, {3 + 4i, complex(minusNought, 1), 4i},
		{4i, 1, complex(0, minusNought)}, {-4i, 1, complex(0, minusNought)}, {3, 1i, complex(0, minusNought)}, {3, -1i, 0},
		{0, 1, complex(0, minusNought)}, {noughts[1], 1, complex(minusNought, 0)}, {noughts[2], 1, complex(0, minusNought)}, {noughts[3], 1, complex(0, minusNought)},
		{1 - 1i, 1 + 1i, 0.9999999999999998 - 0.9999999999999998i},
		{complex(farthest, -farthest), 1, complex(farthest, minusNought)}, {complex(farthest, -farthest), 1i, complex(0, -farthest)},
	} {
		for _, x := range []api.Element{{At: noughts[1]}, {At: noughts[2], Power: minusNought}, {At: noughts[3]}, {}} {
			x.Kind, x.Strength = api.Stream, c.s
			y := x
			y.Strength = c.ought
			for _, at := range []complex128{0, 7 - 1i, farthest} { // wherever the wall is
				wantWall(t, of(x), at, c.way, of(y), api.OK)
				wantWall(t, repeated(many, x), at, c.way, repeated(many, y), api.OK)
			}
		}
	}
}

// The elements in their order, then the images in theirs; of a Stream there is none.
func TestP17_1Order(t *testing.T) {
	a, b, c := source(1i, 1+2i), source(2+3i, -1i), doublet(-1+1i, 2-1i, 2)
	a.Power = minusNought
	aImage, bImage, cImage := source(-1i, 1-2i), source(2-3i, 1i), doublet(-1-1i, 2+1i, 2)
	aImage.Power = minusNought
	s, along := stream(3+4i), stream(complex(3, minusNought))
	for _, r := range []struct{ f, ought api.Flow }{
		{of(), of()},
		{of(a), of(a, aImage)},
		{of(a, b), of(a, b, aImage, bImage)},
		{of(b, a), of(b, a, bImage, aImage)},
		{of(s, a), of(along, a, aImage)},
		{of(a, s), of(a, along, aImage)},
		{of(c, s, a, s, b), of(c, along, a, along, b, cImage, aImage, bImage)},
		{of(a, a, a), of(a, a, a, aImage, aImage, aImage)},
	} {
		got, e := image.Wall(r.f, 0, 1)
		if e != api.OK || !likeFlows(got, r.ought) {
			t.Errorf("Wall of %v: %v, %d, not %v", r.f, got, int(e), r.ought)
		}
		ought, _ := wallSteps(r.f, 0, 1)
		wantWall(t, r.f, 0, 1, ought, api.OK)
	}
}

// likeFlows takes noughts alike, but for those of powers.
func likeFlows(f, g api.Flow) bool {
	if len(f.Elements) != len(g.Elements) {
		return false
	}
	for i, x := range f.Elements {
		y := g.Elements[i]
		if x.Kind != y.Kind || !like(x.At, y.At) || !like(x.Strength, y.Strength) || !sameFloats(x.Power, y.Power) {
			return false
		}
	}
	return true
}

func TestP17_1SourcesOfNoughts(t *testing.T) {
	for _, power := range []float64{0, minusNought} {
		for _, s := range noughts {
			x := api.Element{Kind: api.Source, At: complex(minusNought, 1), Strength: s, Power: power}
			y := api.Element{Kind: api.Source, At: complex(0, -1), Strength: conj(s), Power: power}
			wantWall(t, of(x), 0, 1, of(x, y), api.OK)
			x.At, y.At = 2+1i, complex(-2, 1)
			wantWall(t, of(x), 0, -1i, of(x, y), api.OK)
		}
	}
}

// An n fold Doublet's image is turned by n times twice the wall's angle.
func TestP17_1Folds(t *testing.T) {
	for n := 1; n <= 8; n++ {
		for _, c := range []struct{ way, turn complex128 }{{1, 1}, {-1, 1}, {1i, []complex128{1, -1}[n%2]}, {-1i, []complex128{1, -1}[n%2]}, {1 + 1i, []complex128{1, 1i, -1, -1i}[n%4]}} {
			f := of(above(doublet(1+3i, 2+1i, float64(n)), 0, c.way))
			got, e := image.Wall(f, 0, c.way)
			if e != api.OK || len(got.Elements) != 2 || !(length(got.Elements[1].Strength-(2-1i)*c.turn) <= 0x1p-45) || got.Elements[1].Power != float64(n) {
				t.Errorf("Wall of %v along %v: %v, %d", f, c.way, got, int(e))
			}
			ought, _ := wallSteps(f, 0, c.way)
			wantWall(t, f, 0, c.way, ought, api.OK)
		}
	}
}

// Sources and Doublets count twice, Streams once.
func TestP17_1Many(t *testing.T) {
	single := []api.Element{source(1i, 1), doublet(1+1i, 1, 1), doublet(1+1i, 1, 8)}
	for _, x := range single {
		for _, n := range []int{0, 1, 2, 127, 128} {
			f := joined(repeated(n, x), repeated(many-2*n, stream(1)))
			ought, e := wallSteps(f, 0, 1)
			wantWall(t, f, 0, 1, ought, api.OK)
			if e != api.OK || len(ought.Elements) != many {
				t.Fatalf("%d, %d elements", int(e), len(ought.Elements))
			}
			g := joined(repeated(many-2*n, stream(1)), repeated(n, x))
			ought, _ = wallSteps(g, 0, 1)
			wantWall(t, g, 0, 1, ought, api.OK)
			if n > 0 {
				wantWall(t, joined(f, of(stream(1))), 0, 1, api.Flow{}, api.ErrMany)
				wantWall(t, joined(of(stream(1)), f), 0, 1, api.Flow{}, api.ErrMany)
				wantWall(t, joined(g, of(x)), 0, 1, api.Flow{}, api.ErrMany)
			}
		}
		wantWall(t, repeated(129, x), 0, 1, api.Flow{}, api.ErrMany)
		wantWall(t, repeated(many, x), 0, 1, api.Flow{}, api.ErrMany)
		wantWall(t, joined(repeated(many-1, stream(1)), of(x)), 0, 1, api.Flow{}, api.ErrMany)
		wantWall(t, joined(repeated(many-2, stream(1)), of(x)), 0, 1, joined(repeated(many-2, stream(complex(1, minusNought))), of(x, mirrored(x))), api.OK)
	}
}

// mirrored is x's image below the real numbers.
func mirrored(x api.Element) api.Element {
	x.At, x.Strength = conj(x.At), conj(x.Strength)
	if x.Kind == api.Doublet {
		x.Strength = mul(x.Strength, 1) // which takes its nought's minus
	}
	return x
}

// What may not be among what would be answered.
func lostAtWall() []struct {
	x       api.Element
	at, way complex128
} {
	aslant := complex(farthest, farthest)
	return []struct {
		x       api.Element
		at, way complex128
	}{
		{source(complex(1, farthest), 1), -1i, 1},                             // its image lies too far below
		{doublet(complex(1, farthest), 1, 1), complex(0, -farthest), 1},       // much too far
		{source(aslant, 0), 0, 2 - 1i},                                        // too far aslant
		{doublet(1i, aslant, 1), 0, complex(math.Cos(-0.4), math.Sin(-0.4))},  // turned, the strength is too great
		{doublet(1i, complex(farthest, -farthest), 1), 0, complex(1, 0.4)},    // the other way, too
		{stream(aslant), 0, complex(math.Cos(-0.39), math.Sin(-0.39))},        // so is this one's part along the wall
		{stream(complex(-farthest, farthest)), 1 + 1i, complex(2.414, 1)},     // and this one's
		{stream(complex(farthest, -farthest)), 1 + 1i, complex(-1, -2.41421)}, // and this one's
	}
}

func TestP17_1ImagesThatMayNotBe(t *testing.T) {
	for i, c := range lostAtWall() {
		wantWall(t, of(c.x), c.at, c.way, api.Flow{}, api.ErrReal)
		good := above(source(complex(-3, 5), 1), c.at, c.way)
		for _, f := range []api.Flow{of(good, c.x), of(c.x, good), of(stream(1), c.x, good), repeated(128, c.x)} {
			wantWall(t, f, c.at, c.way, api.Flow{}, api.ErrReal)
		}
		if _, e := wallSteps(of(c.x), c.at, c.way); e != api.ErrReal {
			t.Errorf("%d: %d", i, int(e))
		}
		// A wrong side, or a Corner, counts ahead of it, behind the element too.
		wantWall(t, of(c.x, corner(good.At, 1, 2)), c.at, c.way, api.Flow{}, api.ErrWall)
		wantWall(t, of(c.x, source(c.at, 1)), c.at, c.way, api.Flow{}, api.ErrWall)
		// So do too many elements.
		wantWall(t, joined(of(c.x), repeated(many-1, good)), c.at, c.way, api.Flow{}, api.ErrMany)
		wantWall(t, joined(repeated(128, good), of(c.x)), c.at, c.way, api.Flow{}, api.ErrMany)
		wantWall(t, joined(repeated(many-1, good), of(source(c.at, 1))), c.at, c.way, api.Flow{}, api.ErrWall)
	}
	// Just so they may be.
	for _, f := range []api.Flow{
		of(source(complex(1, farthest), complex(farthest, -farthest))),
		of(doublet(complex(-farthest, farthest), complex(farthest, farthest), 8)),
		of(stream(complex(farthest, 1))),
	} {
		for _, at := range []complex128{0, -0x1p-14i, farthest} {
			ought, e := wallSteps(f, at, 1)
			wantWall(t, f, at, 1, ought, api.OK)
			if e != api.OK {
				t.Errorf("%v: %d", f, int(e))
			}
		}
	}
}
