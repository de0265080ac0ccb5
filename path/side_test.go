package path_test

import (
	"math"
	"testing"

	"eddy/api"
	"eddy/path"
)

func wantSide(t *testing.T, a, b, z complex128, ought int, oughtE api.Errno) {
	t.Helper()
	if s, e := path.Side(a, b, z); s != ought || e != oughtE {
		t.Errorf("Side(%x, %x, %x): %d, %d, not %d, %d", a, b, z, s, int(e), ought, int(oughtE))
	}
}

func exactSide(a, b, z complex128) int { return between(a, b).cross(between(a, z)) }

func TestP12_3Reals(t *testing.T) {
	for _, x := range strange {
		for _, bad := range []complex128{complex(x, 0), complex(0, x), complex(x, x), complex(x, none)} {
			wantSide(t, bad, 1, 1i, 0, api.ErrReal)
			wantSide(t, 1, bad, 1i, 0, api.ErrReal)
			wantSide(t, 1, 1i, bad, 0, api.ErrReal)
			wantSide(t, bad, bad, 1i, 0, api.ErrReal)
			wantSide(t, 1, 1, bad, 0, api.ErrReal)
			wantSide(t, bad, bad, bad, 0, api.ErrReal)
		}
	}
	wantSide(t, complex(-most, -most), complex(most, -most), complex(most, most), 1, api.OK)
	wantSide(t, complex(-most, -most), complex(most, most), complex(most, -most), -1, api.OK)
	wantSide(t, complex(-most, -most), complex(most, most), complex(least, least), 0, api.OK)
}

func TestP12_3Ordinary(t *testing.T) {
	for _, r := range []struct {
		a, b, z complex128
		side    int
	}{
		{0, 1, 1i, 1}, {0, 1, -1i, -1}, {0, 1i, 1, -1}, {0, 1i, -1, 1}, {0, -1, 1i, -1}, {0, -1i, 1, 1},
		{1 + 1i, 3 + 2i, 5 + 3i, 0}, {1 + 1i, 3 + 2i, -1, 0}, {1 + 1i, 3 + 2i, 5 + 4i, 1}, {1 + 1i, 3 + 2i, 5 + 2i, -1},
		{1, 1, 5, 0}, {0, 0, 0, 0}, {2i, 3, 3, 0}, {2i, 3, 2i, 0}, {-7, -7, 4i, 0},
		{0, complex(minusNought, 0), 1i, 0}, {complex(1, minusNought), 1, 1i, 0}, {0, complex(1, minusNought), complex(5, 0), 0}, {complex(0, minusNought), 1, complex(2, least), 1},
	} {
		wantSide(t, r.a, r.b, r.z, r.side, api.OK)
	}
}

// Places in a line whose differences no float tells, and such as are beside it by the least that floats tell.
func TestP12_3InALine(t *testing.T) {
	line := func(x float64) complex128 { return complex(x, 3*x) }
	xs := []float64{0, least, -5 * least, 0x1p-900, -0x1p-500, 1, 1 + 0x1p-50, -7, 0x1p38, -0x1p38 + 1}
	for _, x := range xs {
		for _, y := range xs {
			for _, z := range xs {
				a, b, c := line(x), line(y), line(z)
				wantSide(t, a, b, c, 0, api.OK)
				up := 0
				if x < y {
					up = 1
				} else if x > y {
					up = -1
				}
				wantSide(t, a, b, complex(real(c), math.Nextafter(imag(c), most)), up, api.OK)
				wantSide(t, a, b, complex(real(c), math.Nextafter(imag(c), -most)), -up, api.OK)
				wantSide(t, a, b, complex(math.Nextafter(real(c), -most), imag(c)), up, api.OK)
			}
		}
	}
}

func TestP12_3GreatAndSmall(t *testing.T) {
	tiny := complex(least, least)
	wantSide(t, 0, tiny, complex(most, most), 0, api.OK)
	wantSide(t, 0, tiny, complex(most, math.Nextafter(most, 0)), -1, api.OK)
	wantSide(t, 0, tiny, complex(math.Nextafter(most, 0), most), 1, api.OK)
	wantSide(t, complex(most, least), complex(-most, least), complex(0, 2*least), -1, api.OK)
	wantSide(t, complex(most, least), complex(-most, least), complex(0, least), 0, api.OK)
	wantSide(t, complex(most, least), complex(-most, least), 0, 1, api.OK)
	wantSide(t, complex(-most, -least), complex(most, least), 0, 0, api.OK)
	wantSide(t, complex(-most, -least), complex(most, 2*least), 0, -1, api.OK)
	wantSide(t, complex(-most, -2*least), complex(most, least), 0, 1, api.OK)
	wantSide(t, complex(1, 1), complex(1+0x1p-52, 1), complex(1, 1+0x1p-52), 1, api.OK)
	// The cross is 2^-2148, which no float tells.
	wantSide(t, 0, complex(least, 0), complex(0, least), 1, api.OK)
	wantSide(t, 0, complex(0, least), complex(least, 0), -1, api.OK)
}

func TestP12_3Exactly(t *testing.T) {
	d := newDice()
	seen := [3]int{}
	check := func(a, b, z complex128) {
		if !within(z) {
			return
		}
		ought := exactSide(a, b, z)
		seen[ought+1]++
		wantSide(t, a, b, z, ought, api.OK)
	}
	for range 20000 {
		check(d.small(), d.small(), d.small())
		a, b := d.place(), d.place()
		check(a, b, d.place())
		k := []float64{0.5, 0.25, 0.3, 2, -1}[d.below(5)]
		z := complex(real(a)+k*(real(b)-real(a)), imag(a)+k*(imag(b)-imag(a)))
		check(a, b, z)
		check(a, b, complex(d.near(real(z)), d.near(imag(z))))
	}
	for i, n := range seen {
		if n < 5000 {
			t.Errorf("%d: only %d", i-1, n)
		}
	}
}
