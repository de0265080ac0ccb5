package schwarz_test

import (
	"math"
	"testing"

	"eddy/api"
)

func TestP19_1HowMany(t *testing.T) {
	for n := range 20 {
		ought := api.OK
		if n < 3 || n > 16 {
			ought = api.ErrMany
		}
		wantCheck(t, even(n), ought)
	}
	wantCheck(t, shape{floats{0, 1}, floats{0.5, 0.25, 0.25}}, api.ErrMany)
}

func TestP19_1PlacesAreReals(t *testing.T) {
	for i := range 16 {
		for _, x := range noReals {
			s := even(16)
			s.at[i] = x
			wantCheck(t, s, api.ErrReal)
		}
	}
	wantCheck(t, shape{floats{-farthest, minusNought, farthest}, triangle().angles}, api.OK)
	wantCheck(t, shape{floats{-farthest, 0, beyond}, triangle().angles}, api.ErrReal)
	wantCheck(t, shape{floats{-beyond, 0, farthest}, triangle().angles}, api.ErrReal)
}

func TestP19_1AsManyAngles(t *testing.T) {
	for n := 3; n <= 16; n++ {
		for m := range 20 {
			if m != n {
				wantCheck(t, shape{even(n).at, even(m).angles}, api.ErrMany)
			}
		}
	}
	wantCheck(t, shape{triangle().at, nil}, api.ErrMany)
}

func TestP19_1AnglesAreReals(t *testing.T) {
	for i := range 5 {
		for _, x := range noReals {
			s := even(5)
			s.angles[i] = x
			wantCheck(t, s, api.ErrReal)
		}
		for _, x := range []float64{farthest, -farthest} {
			s := even(5)
			s.angles[i] = x
			wantCheck(t, s, api.ErrPolygon)
		}
	}
}

func TestP19_1OrderOfErrors(t *testing.T) {
	for _, c := range []refused{
		{shape{floats{none, 1}, floats{0.5}}, api.ErrMany},
		{shape{append(even(16).at, none), nil}, api.ErrMany},
		{shape{floats{0, none, 1}, floats{0.5, 0.5}}, api.ErrReal},
		{shape{floats{0, 1, beyond}, nil}, api.ErrReal},
		{shape{floats{1, 0, infinite}, floats{0.5, none, 0.5}}, api.ErrReal},
		{shape{floats{0, 1, 2}, floats{0.5, none}}, api.ErrMany},
		{shape{floats{2, 1, 0}, floats{0.5, 0.25, 0.25, none}}, api.ErrMany},
		{shape{floats{2, 1, 0}, floats{0.5, 0.25, none}}, api.ErrReal},
		{shape{floats{1, 1, 1}, floats{3, -1, -infinite}}, api.ErrReal},
		{shape{floats{2, 1, 0}, floats{1, 1, 1}}, api.ErrPolygon},
	} {
		wantCheck(t, c.shape, c.e)
	}
}

func TestP19_1PlacesRise(t *testing.T) {
	angles := triangle().angles
	for _, at := range []floats{
		{0, 1, 1}, {0, 0, 1}, {minusNought, 0, 1}, {0, minusNought, 1}, {-1, 0, minusNought}, {-1, minusNought, 0},
		{1, 0, 2}, {0, 2, 1}, {2, 1, 0}, {1, 2, 0}, {5, 5, 5}, {1, math.Nextafter(1, 0), 2}, {0, -least, 1},
	} {
		wantCheck(t, shape{at, angles}, api.ErrPolygon)
	}
	for _, at := range []floats{
		{1, math.Nextafter(1, 2), 2}, {-least, minusNought, least}, {-least, 0, 1}, {minusNought, least, 2 * least}, {-3, -2, -1},
		{-farthest, math.Nextafter(-farthest, 0), 0}, {0, math.Nextafter(farthest, 0), farthest},
	} {
		wantCheck(t, shape{at, angles}, api.OK)
	}
	for i := range 15 {
		s := even(16)
		s.at[i] = s.at[i+1]
		wantCheck(t, s, api.ErrPolygon)
	}
}

// An angle of a triangle at each of its places: nought, 2 and what lies beyond them may not be, even where the sum is right.
func TestP19_1AnglesAreInner(t *testing.T) {
	for _, c := range []struct {
		angles floats
		e      api.Errno
	}{
		{floats{0, 0.5, 0.5}, api.ErrPolygon}, {floats{minusNought, 0.5, 0.5}, api.ErrPolygon}, {floats{-least, 0.5, 0.5}, api.ErrPolygon},
		{floats{least, 0.5, 0.5}, api.OK}, {floats{2, -0.5, -0.5}, api.ErrPolygon}, {floats{1.5, -0.25, -0.25}, api.ErrPolygon},
		{floats{2, least, least, least}, api.ErrPolygon}, {floats{math.Nextafter(2, 0), least, least, least}, api.OK},
		{floats{math.Nextafter(2, 3), least, least, least}, api.ErrPolygon}, {floats{2, 0, 0, 0}, api.ErrPolygon},
		{floats{2.5, 0.25, 0.125, 0.0625, 0.0625}, api.ErrPolygon}, {floats{1.75, 0.75, 0.25, 0.125, 0.125}, api.OK},
		{floats{1, 0.5, 0.5}, api.ErrPolygon}, {floats{1, 0.5, 0.25, 0.25}, api.OK}, {floats{1, 1, 0.5, 0.25, 0.25}, api.OK},
	} {
		for turns := range len(c.angles) {
			turned := append(append(floats{}, c.angles[turns:]...), c.angles[:turns]...)
			wantCheck(t, shape{even(len(turned)).at, turned}, c.e)
		}
	}
}

func TestP19_1SumOfAngles(t *testing.T) {
	const bound = 0x1p-40
	for _, c := range []struct {
		off float64
		e   api.Errno
	}{
		{0, api.OK}, {bound, api.OK}, {-bound, api.OK}, {bound / 2, api.OK}, {-bound / 2, api.OK}, {bound + 0x1p-54, api.OK}, // the sum is rounded: there to the bound
		{bound + 0x1p-52, api.ErrPolygon}, {-bound - 0x1p-53, api.ErrPolygon}, {2 * bound, api.ErrPolygon}, {-2 * bound, api.ErrPolygon},
		{0.25, api.ErrPolygon}, {-0.125, api.ErrPolygon}, {1, api.ErrPolygon},
	} {
		wantCheck(t, shape{triangle().at, floats{0.5, 0.25, 0.25 + c.off}}, c.e)
	}
	// The first ones come to a unit of the last place together, each alone to nothing beside the last one.
	wantCheck(t, shape{triangle().at, floats{0x1p-53, 0x1p-53, 1 + bound}}, api.ErrPolygon)
	wantCheck(t, shape{triangle().at, floats{1 + bound, 0x1p-53, 0x1p-53}}, api.OK)
	for n := 3; n <= 16; n++ {
		s := even(n)
		s.angles[n/2] += 0x1p-39
		wantCheck(t, s, api.ErrPolygon)
		s.angles[n/2] -= 0x1p-38
		wantCheck(t, s, api.ErrPolygon)
	}
}

func TestP19_1WrongOnes(t *testing.T) {
	for _, c := range wrong() {
		wantCheck(t, c.shape, c.e)
	}
}
