package image_test

import (
	"testing"

	"eddy/api"
	"eddy/image"
)

// wantExample takes noughts alike.
func wantExample(t *testing.T, name string, got api.Flow, e api.Errno, ought ...api.Element) {
	t.Helper()
	if e != api.OK || !likeFlows(got, of(ought...)) {
		t.Errorf("%s: %v, %d, not %v", name, got, int(e), ought)
	}
}

// The rows of the chapter's table, in its order.
func TestExamplesOfWalls(t *testing.T) {
	f := of(source(2i, 1-3i))
	got, e := image.Wall(f, 0, 1)
	wantExample(t, "Wall", got, e, source(2i, 1-3i), source(-2i, 1+3i))

	f = of(stream(3 + 4i))
	wantWall(t, f, 0, 2, of(stream(complex(3, minusNought))), api.OK)
	wantWall(t, f, 0, 1i, of(stream(complex(minusNought, 4))), api.OK)

	f = of(doublet(2+1i, 1i, 1))
	got, e = image.Wall(f, 0, -1i)
	wantExample(t, "Wall", got, e, doublet(2+1i, 1i, 1), doublet(-2+1i, 1i, 1))

	wantWall(t, of(source(-1i, 1)), 0, 1, api.Flow{}, api.ErrWall)
	wantWall(t, of(corner(1i, 1, 2)), 0, 1, api.Flow{}, api.ErrWall)
	wantWall(t, of(), 0, 0, api.Flow{}, api.ErrWall)
	wantWall(t, of(), 0, complex(none, 0), api.Flow{}, api.ErrReal)
	wantWall(t, of(), 0, complex(0, none), api.Flow{}, api.ErrReal)
}

func TestExamplesOfCircles(t *testing.T) {
	wantCircle(t, of(stream(2)), about(0, 3), of(stream(2), doublet(0, complex(18, minusNought), 1)), api.OK)

	got, e := image.Circle(of(source(4, 1+1i)), about(0, 2))
	wantExample(t, "Circle", got, e, source(4, 1+1i), source(1, 1-1i), source(0, -1+1i))

	got, e = image.Circle(of(doublet(4, 1, 1)), about(0, 2))
	wantExample(t, "Circle", got, e, doublet(4, 1, 1), doublet(1, -0.25, 1))

	wantCircle(t, of(source(1, 1)), about(0, 2), api.Flow{}, api.ErrWall)
	wantCircle(t, of(), about(0, 0), api.Flow{}, api.ErrReal)
}

func TestExamplesOfPlaces(t *testing.T) {
	if z, e := image.Place(about(1, 2), 5); e != api.OK || !like(z, 2) {
		t.Errorf("Place: %v, %d", z, int(e))
	}
	wantPlace(t, about(0, 1), 0, 0, api.ErrPlace)

	if z, e := image.Across(0, 1, 1+2i); e != api.OK || !like(z, 1-2i) {
		t.Errorf("Across: %v, %d", z, int(e))
	}
	if z, e := image.Across(1i, 1+1i, 3+1i); e != api.OK || !(length(z-4i) <= 0x1p-48) {
		t.Errorf("Across: %v, %d", z, int(e))
	}
}

func TestExamplesOfThrough(t *testing.T) {
	wantThrough(t, of(stream(-1i)), list{0}, list{1}, 1, api.OK)
	wantThrough(t, of(stream(1)), list{0}, list{5}, 0, api.OK)
	wantThrough(t, of(), nil, nil, 0, api.OK)
}
