package image_test

import (
	"math"
	"testing"

	"eddy/api"
	"eddy/flow"
)

func TestP17_4FlowFirst(t *testing.T) {
	for _, r := range refused() {
		wantThrough(t, r.f, nil, nil, 0, r.e)
		wantThrough(t, r.f, list{1}, list{1}, 0, r.e)
		wantThrough(t, r.f, filled(points+1, 1), nil, 0, r.e)
		for _, z := range append(append(list{}, noughts...), noPlaces...) {
			wantThrough(t, r.f, list{z}, list{z}, 0, r.e)
			wantThrough(t, r.f, nil, list{z}, 0, r.e)
		}
	}
}

func TestP17_4None(t *testing.T) {
	for _, f := range []api.Flow{of(), of(stream(-1i)), of(source(1, 1)), of(corner(0, 1, 0.5)), repeated(many, stream(1))} {
		wantThrough(t, f, nil, nil, 0, api.OK)
		wantThrough(t, f, list{}, nil, 0, api.OK)
		wantThrough(t, f, nil, list{}, 0, api.OK)
		wantThrough(t, f, list{}, list{}, 0, api.OK)
	}
	wantThrough(t, of(), list{0, 1i, farthest}, list{1, 1i, -1}, 0, api.OK)
}

func TestP17_4ManyPlaces(t *testing.T) {
	f := of(stream(2i))
	wantThrough(t, f, filled(points, 1), filled(points, -3), 2, api.OK)
	l, ways := filled(points, 1), filled(points, 1i)
	ways[points-1] = 3 + 4i // there 1.2 goes through
	wantThrough(t, f, l, ways, math.Abs(imag(mul(2i, 0.6+0.8i))), api.OK)
	wantThrough(t, f, filled(points+1, 1), filled(points+1, 1), 0, api.ErrMany)
	wantThrough(t, f, filled(2*points, 1), filled(2*points, 1), 0, api.ErrMany)
	// More places than may be count ahead of all that is wrong with them, or with the ways.
	for _, z := range noPlaces {
		wantThrough(t, f, filled(points+1, z), filled(points+1, 1), 0, api.ErrMany)
		wantThrough(t, f, filled(points+1, 1), filled(points+1, z), 0, api.ErrMany)
	}
	wantThrough(t, f, filled(points+1, 1), nil, 0, api.ErrMany)
	wantThrough(t, f, filled(points+1, 1), filled(points, 1), 0, api.ErrMany)
	wantThrough(t, f, filled(points+1, 1), filled(points+1, 0), 0, api.ErrMany)
	wantThrough(t, of(source(1, 1)), filled(points+1, 1), filled(points+1, 1), 0, api.ErrMany)
	wantThrough(t, f, nil, filled(points+1, 1), 0, api.ErrShape)
	wantThrough(t, f, filled(points, 1), filled(points+1, 1), 0, api.ErrShape)
}

func TestP17_4NoPlace(t *testing.T) {
	for _, f := range []api.Flow{of(), of(stream(1)), of(source(1, 1))} { // 1 is a place without a value then
		for _, z := range noPlaces {
			for _, n := range []int{1, 2, 5, points} {
				for _, k := range []int{0, n / 2, n - 1} {
					l := filled(n, 1)
					l[k] = z
					for _, ways := range []list{filled(n, 1), nil, filled(n-1, 1), filled(n+1, 1), filled(n, 0), filled(n, noPlaces[0])} {
						wantThrough(t, f, l, ways, 0, api.ErrReal)
					}
				}
			}
		}
	}
	for _, z := range edgePlaces {
		wantThrough(t, of(stream(3i)), list{z, -z}, list{1, z}, 3, api.OK)
	}
}

func TestP17_4UnlikeLengths(t *testing.T) {
	for _, f := range []api.Flow{of(), of(stream(1)), of(source(1, 1))} {
		for n := range 5 {
			for m := range 5 {
				if n == m {
					continue
				}
				for _, way := range append(append(list{1}, noughts...), noPlaces...) { // ahead of what is wrong with ways
					wantThrough(t, f, filled(n, 1), filled(m, way), 0, api.ErrShape)
				}
			}
		}
	}
}

// Way by way, up to the first one that is wrong; ahead of all places without a value.
func TestP17_4Ways(t *testing.T) {
	for _, f := range []api.Flow{of(), of(stream(1)), of(source(1, 1))} {
		for _, z := range noPlaces {
			for _, nought := range noughts {
				for _, n := range []int{2, 3, 9} {
					ways := filled(n, 1)
					ways[n-1] = z
					wantThrough(t, f, filled(n, 1), ways, 0, api.ErrReal)
					ways[n-2] = nought
					wantThrough(t, f, filled(n, 1), ways, 0, api.ErrWall)
					ways[0], ways[n-1] = z, nought
					wantThrough(t, f, filled(n, 1), ways, 0, api.ErrReal)
					ways[0], ways[n-1] = nought, nought
					wantThrough(t, f, filled(n, 1), ways, 0, api.ErrWall)
				}
			}
		}
		wantThrough(t, f, list{1}, list{0}, 0, api.ErrWall)
		wantThrough(t, f, list{1}, list{noPlaces[2]}, 0, api.ErrReal)
	}
}

func TestP17_4AWayOfAnyLength(t *testing.T) {
	f := of(stream(3-2i), source(1i, 5+1i), doublet(-2, 1i, 3))
	for _, way := range []complex128{1, 1i, -1 - 1i, 0.3 + 0.7i, 3 - 4i} {
		ought, _ := throughSteps(f, list{2 + 2i}, list{way})
		for _, by := range []float64{0x1p30, 0x1p-30, 0x1p-900, 0x1p-1000} {
			wantThrough(t, f, list{2 + 2i}, list{scale(way, by)}, ought, api.OK)
		}
	}
	wantThrough(t, of(stream(-3i)), list{0}, list{least}, 3, api.OK)
	wantThrough(t, of(stream(-3i)), list{0}, list{complex(-least, minusNought)}, 3, api.OK)
}

// Along the way nothing counts, across it all, whichever way it goes.
func TestP17_4Streams(t *testing.T) {
	for _, c := range []struct {
		s, way complex128
		ought  float64
	}{
		{-1i, 1, 1}, {1i, 1, 1}, {1i, -1, 1}, {1, 1, 0}, {1, 5, 0}, {1, 1i, 1}, {1, -2i, 1}, {3 + 4i, 1, 4}, {3 + 4i, 1i, 3}, {-3 - 4i, 1, 4},
		{5, 3 + 4i, 4}, {5i, 3 + 4i, 3}, {1 - 1i, 1 + 1i, 0}, {1 + 1i, 1 + 1i, 1.414213562373095}, {0, 1, 0}, {noughts[2], 1, 0}, {noughts[3], -1, 0}, {noughts[1], 1i, 0},
		{complex(farthest, -farthest), 1, farthest}, {complex(0, least), 1, least}, {complex(0, -least), 1, least},
	} {
		wantThrough(t, of(stream(c.s)), list{0}, list{c.way}, c.ought, api.OK)
		wantThrough(t, of(stream(c.s)), list{2 - 1i, farthest, 0}, list{c.way, c.way, c.way}, c.ought, api.OK)
	}
}

// The greatest worth among several, be it the first one, the last one or one amid others, of either sign.
func TestP17_4TheGreatest(t *testing.T) {
	f := of(corner(0, 1, 2)) // the speed at z is 2 z
	for _, c := range []struct {
		l, ways list
		ought   float64
	}{
		{list{1i, 2i, 3i}, list{1, 1, 1}, 6}, {list{3i, 2i, 1i}, list{1, 1, 1}, 6}, {list{1i, 3i, 2i}, list{1, 1, 1}, 6},
		{list{1i, -3i, 2i}, list{1, 1, 1}, 6}, {list{1i, 3i, 2i}, list{1, -1, 1}, 6}, {list{-1i, -2i, -3i}, list{1, 1, 1}, 6},
		{list{1i, 9i, 2i}, list{1, 1i, 1}, 4}, {list{9, 9i, 1i, 9}, list{1, 1i, 1, -1}, 2}, {list{9, 9i, 2}, list{1, 1i, -1}, 0},
		{list{9, 1, 9}, list{1, 1i, 1}, 2}, {list{9, -1, 9}, list{1, 1i, 1}, 2}, {list{0}, list{1}, 0}, {list{noughts[3]}, list{-1}, 0},
	} {
		wantThrough(t, f, c.l, c.ways, c.ought, api.OK)
	}
}

// The first place without a value ends it, behind places that have one, too.
func TestP17_4NoValue(t *testing.T) {
	for _, f := range []api.Flow{of(source(1, 1)), of(doublet(1, 0, 3)), of(corner(1, 1, 0.5)), of(stream(1), source(1, 1), source(2, 1))} {
		for _, n := range []int{1, 2, 7} {
			for _, k := range []int{0, n / 2, n - 1} {
				l := filled(n, 3i)
				l[k] = 1
				wantThrough(t, f, l, filled(n, 1i), 0, api.ErrPlace)
			}
		}
		ought, _ := flow.Speed(f, 3i)
		wantThrough(t, f, list{3i, 3i}, list{1, 1}, math.Abs(imag(ought)), api.OK)
	}
	// A speed that is told, but not finite any more where it goes aslant through a wall.
	const z = 0x1p-511
	for _, turn := range []complex128{1, -1} {
		f := of(doublet(0, turn*(1+1i), 1), doublet(0, turn*(0.5+0.5i), 1)) // its speed there is 1.5 (1 + i) times 2^1022
		if v, e := flow.Speed(f, z); e != api.OK {
			t.Errorf("%x, %d", v, int(e))
		}
		wantThrough(t, f, list{z}, list{1}, 0x1.8p1022, api.OK)
		wantThrough(t, f, list{z}, list{1 - 1i}, 0, api.OK)
		wantThrough(t, f, list{z, z}, list{1, 1 + 1i}, 0x1.8p1022*math.Sqrt2, api.OK)
		g := joined(f, f)
		wantThrough(t, g, list{z}, list{1}, 0x1.8p1023, api.OK)
		wantThrough(t, g, list{z}, list{1 + 1i}, 0, api.ErrPlace)
		wantThrough(t, g, list{z, 1}, list{1 + 1i, 1}, 0, api.ErrPlace)
		wantThrough(t, g, list{1, z}, list{1, -1 - 1i}, 0, api.ErrPlace)
		wantThrough(t, g, list{z}, list{1 - 1i}, 0, api.OK) // what goes along is nobody's matter
	}
}
