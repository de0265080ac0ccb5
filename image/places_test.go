package image_test

import (
	"math"
	"testing"

	"eddy/api"
)

func TestP17_3PlaceNoReal(t *testing.T) {
	for _, z := range append(append(append(list{1, -3i}, noughts...), edgePlaces...), noPlaces...) {
		for _, c := range noCircles() {
			wantPlace(t, c, z, 0, api.ErrReal)
		}
	}
	for _, z := range noPlaces {
		for _, c := range edgeCircles() {
			wantPlace(t, c, z, 0, api.ErrReal)
		}
	}
}

func TestP17_3PlaceAtEdges(t *testing.T) {
	for _, c := range edgeCircles() {
		for _, z := range append(append(list{1, -3i, 0.5 - 0.5i}, noughts...), edgePlaces...) {
			if ought := placeSteps(c, z); isFinite(ought) {
				wantPlace(t, c, z, ought, api.OK)
			} else {
				wantPlace(t, c, z, 0, api.ErrPlace)
			}
		}
	}
	for _, r := range []struct {
		c        api.Circle
		z, ought complex128
	}{
		{about(0, 1), 2, 0.5}, {about(0, 1), 0.5, 2}, {about(0, 1), -4i, -0.25i}, {about(0, 2), 1 + 1i, 2 + 2i},
		{about(1, 2), 5, 2}, {about(1i, 5), 3 + 5i, 3 + 5i}, {about(-1-1i, 1), -1 + 1i, -1 - 0.5i},
		{about(0, farthest), farthest, farthest}, {about(0, nearest), farthest, 0x1p-120}, {about(0, farthest), nearest, 0x1p120},
		{about(0, farthest), 1, 0x1p80}, {about(0, farthest), -1i, -0x1p80i}, // beyond all places, but a number
	} {
		if !like(placeSteps(r.c, r.z), r.ought) {
			t.Errorf("%v in %v", r.z, r.c)
		}
		wantPlace(t, r.c, r.z, placeSteps(r.c, r.z), api.OK)
	}
}

// At the centre there is no image place, nor so near to it that the place is beyond all floats.
func TestP17_3PlaceAtTheCentre(t *testing.T) {
	for _, c := range edgeCircles() {
		wantPlace(t, c, c.Centre, 0, api.ErrPlace)
	}
	for _, o := range noughts {
		for _, z := range noughts {
			wantPlace(t, about(o, 1), z, 0, api.ErrPlace)
		}
		for _, turn := range []complex128{1, -1, 1i, -1i} {
			for _, r := range []struct {
				radius, far float64
				ought       float64
			}{{1, least, 0}, {1, 0x1p-1023, 0x1p1023}, {1, 0x1p-1024, 0}, {farthest, 0x1p-943, 0x1p1023}, {farthest, 0x1p-944, 0}, {nearest, least, 0x1p994}, {3, 0x1.2p-1020, 0x1p1023}, {3, 0x1p-1021, 0}} {
				c, z := about(o, r.radius), turn*complex(r.far, 0)
				if r.ought == 0 {
					wantPlace(t, c, z, 0, api.ErrPlace)
				} else {
					wantPlace(t, c, z, placeSteps(c, z), api.OK)
					if !like(placeSteps(c, z), turn*complex(r.ought, 0)) {
						t.Errorf("%x in %x: %x", z, c, placeSteps(c, z))
					}
				}
			}
			// Aslant, one part only may be too great.
			wantPlace(t, about(o, 1), turn*complex(0x1.8p-1025, 0x1p-1027), 0, api.ErrPlace)
			wantPlace(t, about(o, 1), turn*complex(0x1p-1027, 0x1.8p-1025), 0, api.ErrPlace)
		}
	}
	// Straight beside a centre that is not nought.
	wantPlace(t, about(1, 1), complex(math.Nextafter(1, 2), 0), 1+0x1p52, api.OK)
	wantPlace(t, about(1, 1), complex(math.Nextafter(1, 0), 0), 1-0x1p53, api.OK)
	wantPlace(t, about(1, 1), complex(1, least), 0, api.ErrPlace)
	wantPlace(t, about(1+1i, 1), complex(1, math.Nextafter(1, 2)), 1+(1+0x1p52)*1i, api.OK)
}

func TestP17_3PlaceNoughts(t *testing.T) {
	for _, o := range noughts {
		for _, z := range []complex128{2, -2, 2i, -2i, complex(2, minusNought), complex(-2, minusNought), complex(minusNought, 2), complex(minusNought, -2)} {
			wantPlace(t, about(o, 2), z, placeSteps(about(o, 2), z), api.OK)
		}
	}
	wantPlace(t, about(0, 2), 4, 1, api.OK)
	wantPlace(t, about(0, 2), complex(4, minusNought), 1, api.OK) // the centre's nought takes it
	wantPlace(t, about(noughts[2], 2), complex(4, minusNought), complex(1, 0), api.OK)
	wantPlace(t, about(noughts[3], 2), complex(-4, minusNought), complex(-1, minusNought), api.OK)
}

func TestP17_3AcrossNoReal(t *testing.T) {
	for _, z := range noPlaces {
		for _, w := range append(append(append(list{1, 2 - 3i}, noughts...), edgePlaces...), noPlaces...) {
			wantAcross(t, z, w, 1, 0, api.ErrReal)
			wantAcross(t, z, 1, w, 0, api.ErrReal)
			wantAcross(t, w, z, 1, 0, api.ErrReal)
			wantAcross(t, 1, z, w, 0, api.ErrReal)
			wantAcross(t, w, 1, z, 0, api.ErrReal)
			wantAcross(t, 1, w, z, 0, api.ErrReal) // a way without a unit, too
			wantAcross(t, z, w, z, 0, api.ErrReal)
		}
	}
}

func TestP17_3AcrossNoWay(t *testing.T) {
	for _, way := range noughts {
		for _, at := range append(append(list{1, 2 - 3i}, noughts...), edgePlaces...) {
			wantAcross(t, at, way, 1+1i, 0, api.ErrWall)
			wantAcross(t, at, way, at, 0, api.ErrWall)
			wantAcross(t, 0, way, at, 0, api.ErrWall)
		}
	}
}

func TestP17_3AcrossAtEdges(t *testing.T) {
	for _, at := range append(append(list{}, noughts...), edgePlaces...) {
		for _, z := range append(append(list{1 - 1i}, noughts...), edgePlaces...) {
			for _, way := range append(list{1, -1, 1i, -1i, least, complex(0, least), 1 + 1i, 3 - 4i, complex(least, -least), complex(1, minusNought)}, edgePlaces...) {
				wantAcross(t, at, way, z, acrossSteps(at, unitOf(way), z), api.OK)
			}
		}
	}
	far := complex(0, farthest)
	wantAcross(t, -far, 1, far, complex(0, -3*farthest), api.OK) // beyond all places, but a number
	wantAcross(t, 0, 1, 1+2i, 1-2i, api.OK)
	wantAcross(t, 0, -1, 1+2i, 1-2i, api.OK)
	wantAcross(t, 0, 1i, 1+2i, complex(-1, 2), api.OK)
	wantAcross(t, 1, 1i, 1, 1, api.OK)
	wantAcross(t, 1+1i, 7, 3-1i, 3+3i, api.OK)
}

// unitOf is a way's unit, by chapter 6's words.
func unitOf(way complex128) complex128 {
	greater := math.Max(math.Abs(real(way)), math.Abs(imag(way)))
	_, k := math.Frexp(greater)
	u, v := math.Ldexp(real(way), -k), math.Ldexp(imag(way), -k)
	l := math.Sqrt(plus(times(u, u), times(v, v)))
	return complex(over(u, l), over(v, l))
}
