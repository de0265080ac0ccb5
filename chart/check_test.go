package chart_test

import (
	"math"
	"testing"

	"eddy/api"
	"eddy/chart"
)

func TestP18_1Kinds(t *testing.T) {
	for kind := range 256 {
		for _, m := range each() {
			own := int(m.Kind) == kind
			m.Kind = uint8(kind)
			if kind < 1 || kind > 4 {
				wantCheck(t, m, api.ErrMap)
				continue
			}
			if e := chart.Check(m); own && e != api.OK {
				t.Errorf("Check of %v: %d", m, int(e))
			}
			wantCheck(t, m, checkSteps(m))
		}
	}
}

// Where the kind is none, nothing else is looked at; where a number is no real, nothing of what must be so.
func TestP18_1Order(t *testing.T) {
	for _, bad := range noPlaces {
		for _, r := range []refused{
			{api.Map{A: bad}, api.ErrMap},
			{api.Map{Kind: 5, B: bad, Power: none}, api.ErrMap},
			{api.Map{Kind: 255, D: bad, Power: infinite}, api.ErrMap},
			{moebius(bad, 0, 0, 0), api.ErrReal},
			{moebius(0, bad, 0, 0), api.ErrReal},
			{moebius(0, 0, bad, 0), api.ErrReal},
			{moebius(0, 0, 0, bad), api.ErrReal},
			{api.Map{Kind: api.MapMoebius, A: bad, D: 1, Power: 1}, api.ErrReal},
			{api.Map{Kind: api.MapMoebius, A: 1, B: 1, C: 1, D: 1, Power: none}, api.ErrReal},
			{api.Map{Kind: api.MapJoukowski, B: bad}, api.ErrReal},
			{api.Map{Kind: api.MapJoukowski, C: 1, Power: infinite}, api.ErrReal},
			{api.Map{Kind: api.MapPower, C: bad, Power: 9}, api.ErrReal},
			{api.Map{Kind: api.MapPower, C: 1, Power: none}, api.ErrReal},
			{api.Map{Kind: api.MapExp, D: bad}, api.ErrReal},
			{api.Map{Kind: api.MapExp, D: 1, Power: -infinite}, api.ErrReal},
		} {
			wantCheck(t, r.m, r.e)
		}
	}
}

// Each number of each kind, at MaxReal and just beyond it, infinite, none.
func TestP18_1Numbers(t *testing.T) {
	for _, m := range each() {
		for _, set := range []func(z complex128) api.Map{
			func(z complex128) api.Map { n := m; n.A = z; return n },
			func(z complex128) api.Map { n := m; n.B = z; return n },
			func(z complex128) api.Map { n := m; n.C = z; return n },
			func(z complex128) api.Map { n := m; n.D = z; return n },
		} {
			for _, z := range noPlaces {
				wantCheck(t, set(z), api.ErrReal)
			}
			for _, z := range append(append(list{1, 1i, least, complex(0, -least)}, noughts...), edgePlaces...) {
				if e := chart.Check(set(z)); e == api.ErrReal {
					t.Errorf("Check of %v: ErrReal", set(z))
				}
				wantCheck(t, set(z), checkSteps(set(z)))
			}
		}
		for _, p := range noReals {
			n := m
			n.Power = p
			wantCheck(t, n, api.ErrReal)
		}
		for _, p := range []float64{farthest, -farthest} {
			n := m
			n.Power = p
			wantCheck(t, n, api.ErrMap)
		}
	}
}

func TestP18_1Edges(t *testing.T) {
	for _, r := range []refused{
		// The greatest numbers.
		{moebius(farthest, 0, 0, farthest), api.OK},
		{moebius(complex(-farthest, farthest), 0, 1, complex(farthest, -farthest)), api.OK},
		{joukowski(complex(farthest, farthest)), api.OK},
		{power(farthest, -farthest, 4), api.OK},
		{exp(complex(0, -farthest), farthest), api.OK},
		// The least ones.
		{joukowski(least), api.OK},
		{joukowski(complex(minusNought, -least)), api.OK},
		{power(complex(0, least), 0, 0.25), api.OK},
		{exp(least, complex(minusNought, least)), api.OK},
	} {
		wantCheck(t, r.m, r.e)
	}
	for _, o := range noughts {
		for _, q := range noughts {
			for _, p := range []float64{0, minusNought} {
				wantCheck(t, api.Map{Kind: api.MapMoebius, A: o, B: 1, C: 1i, D: q, Power: p}, api.OK)
				wantCheck(t, api.Map{Kind: api.MapMoebius, A: 1, B: o, C: q, D: 2, Power: p}, api.OK)
				wantCheck(t, api.Map{Kind: api.MapMoebius, A: o, B: q, C: 1, D: 2, Power: p}, api.ErrMap)
				wantCheck(t, api.Map{Kind: api.MapMoebius, A: 1, B: o, C: 1, D: q, Power: p}, api.ErrMap)
				wantCheck(t, api.Map{Kind: api.MapMoebius, A: 1, B: 2, C: o, D: q, Power: p}, api.ErrMap)
				wantCheck(t, api.Map{Kind: api.MapJoukowski, A: 1i, B: o, C: q, D: o, Power: p}, api.OK)
				wantCheck(t, api.Map{Kind: api.MapJoukowski, A: q, B: o, Power: p}, api.ErrMap)
				wantCheck(t, api.Map{Kind: api.MapExp, A: 1i, B: 1, C: q, D: o, Power: p}, api.OK)
				wantCheck(t, api.Map{Kind: api.MapExp, A: o, B: 1, C: q, Power: p}, api.ErrMap)
				wantCheck(t, api.Map{Kind: api.MapExp, A: 1, B: o, C: q, Power: p}, api.ErrMap)
				wantCheck(t, api.Map{Kind: api.MapPower, A: 1i, B: o, C: q, D: o, Power: 1}, api.OK)
				wantCheck(t, api.Map{Kind: api.MapPower, A: o, B: q, Power: 1}, api.ErrMap)
				wantCheck(t, api.Map{Kind: api.MapPower, A: 1, B: q, Power: p}, api.ErrMap)
			}
		}
	}
}

// What must be nought may not even be the least there is, in either part.
func TestP18_1MustBeNought(t *testing.T) {
	for _, z := range []complex128{1, 1i, -least, complex(minusNought, least), farthest} {
		for _, r := range []api.Map{
			{Kind: api.MapJoukowski, A: 1, B: z},
			{Kind: api.MapJoukowski, A: 1, C: z},
			{Kind: api.MapJoukowski, A: 1, D: z},
			{Kind: api.MapPower, A: 1, C: z, Power: 2},
			{Kind: api.MapPower, A: 1, D: z, Power: 2},
			{Kind: api.MapExp, A: 1, B: 1, C: z},
			{Kind: api.MapExp, A: 1, B: 1, D: z},
		} {
			wantCheck(t, r, api.ErrMap)
		}
	}
	for _, p := range []float64{least, -least, 1, 0.25, 4, -1} {
		for _, m := range []api.Map{moebius(0, 1, 1, 0), joukowski(1), exp(1, 1)} {
			m.Power = p
			wantCheck(t, m, api.ErrMap)
		}
	}
}

func TestP18_1Powers(t *testing.T) {
	for _, p := range []float64{0.25, math.Nextafter(0.25, 1), 0.5, 1, math.Nextafter(1, 0), math.Nextafter(1, 2), 1.5, 2, 2.5, 3, math.Pi, math.Nextafter(4, 3), 4} {
		wantCheck(t, power(1, 0, p), api.OK)
		wantCheck(t, power(1i, complex(farthest, -farthest), p), api.OK)
		wantCheck(t, power(0, 1, p), api.ErrMap)
	}
	for _, p := range []float64{0, minusNought, least, math.Nextafter(0.25, 0), 0.125, math.Nextafter(4, 5), 5, 6, 8, -0.25, -1, -4, farthest, -farthest} {
		wantCheck(t, power(1, 0, p), api.ErrMap)
	}
}

// The determinant is that of floats.
func TestP18_1Determinants(t *testing.T) {
	more, less := complex(1+0x1p-30, 0), complex(1-0x1p-30, 0)
	for _, r := range []refused{
		{moebius(1, 1, 1, 1), api.ErrMap},
		{moebius(0, 0, 0, 0), api.ErrMap},
		{moebius(1+2i, 2+4i, 3i, 6i), api.ErrMap},
		{moebius(1i, 1, -1, 1i), api.ErrMap},
		{moebius(1i, 1, 1, 1i), api.OK},
		{moebius(1, 2, 3, 4), api.OK},
		// One part that is not nought will do.
		{moebius(1, 0, 0, 1i), api.OK},
		{moebius(0, 1, 1i, 0), api.OK},
		// 1 - 2^-60 is rounded to 1.
		{moebius(more, 1, 1, less), api.ErrMap},
		{moebius(1, more, less, 1), api.ErrMap},
		{moebius(more, 1, 1, more), api.OK},
		// Too little for floats.
		{moebius(0x1p-600, 0, 0, 0x1p-600), api.ErrMap},
		{moebius(0x1p-537, 0, 0, 0x1p-537), api.OK},
		{moebius(0, 0x1p-538, 0x1p-538, 0), api.ErrMap},
		{moebius(least, 1, 0, farthest), api.OK},
		// Too far from one another for floats.
		{moebius(farthest, farthest, farthest-0x1p-12, farthest), api.OK},
		{moebius(farthest, 1, 0x1p-10, farthest), api.OK},
		{moebius(farthest, farthest, farthest, farthest), api.ErrMap},
	} {
		wantCheck(t, r.m, r.e)
	}
}

// Check's error of a map comes first, whatever else is handed in.
func TestP18_2MapsThatMayNotBe(t *testing.T) {
	for _, r := range wrong() {
		for _, z := range append(append(list{}, noPlaces...), 0, 1, 2i) {
			wantAt(t, r.m, z, 0, r.e)
			wantSlope(t, r.m, z, 0, r.e)
			wantBack(t, r.m, z, false, 0, r.e)
			wantBack(t, r.m, z, true, 0, r.e)
		}
	}
}

func TestP18_2NoPlaces(t *testing.T) {
	for _, m := range each() {
		for _, z := range noPlaces {
			wantAt(t, m, z, 0, api.ErrReal)
			wantSlope(t, m, z, 0, api.ErrReal)
			wantBack(t, m, z, false, 0, api.ErrReal)
			wantBack(t, m, z, true, 0, api.ErrReal) // also of kinds that have no other one
		}
	}
}
