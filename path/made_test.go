package path_test

import (
	"math"
	"testing"

	"eddy/angle"
	"eddy/api"
	"eddy/path"
)

// of is a box by its spans' ends.
func of(a, b, c, d float64) api.Box { return api.Box{Low: complex(a, c), High: complex(b, d)} }

// wantList takes what a call answers as it comes.
func wantList(t *testing.T, what string, ought list, oughtE api.Errno, got list, e api.Errno) {
	t.Helper()
	if e != oughtE || !sameLists(got, ought) {
		t.Errorf("%s: %x, %d, not %x, %d", what, got[:min(len(got), 9)], int(e), ought[:min(len(ought), 9)], int(oughtE))
	}
}

func wantBox(t *testing.T, b api.Box, ought list, oughtE api.Errno) {
	t.Helper()
	got, e := path.Box(b)
	wantList(t, "Box", ought, oughtE, got, e)
}

func wantCircle(t *testing.T, c api.Circle, n int, ought list, oughtE api.Errno) {
	t.Helper()
	got, e := path.Circle(c, n)
	wantList(t, "Circle", ought, oughtE, got, e)
}

func TestP12_4Box(t *testing.T) {
	wantBox(t, of(0, 2, 0, 2), q(), api.OK)
	wantBox(t, of(-1.5, 3, 0.25, 7), list{-1.5 + 0.25i, 3 + 0.25i, 3 + 7i, -1.5 + 7i}, api.OK)
	wantBox(t, of(-most, most, -most, most), list{complex(-most, -most), complex(most, -most), complex(most, most), complex(-most, most)}, api.OK)
	wantBox(t, of(0, least, -least, 0), list{complex(0, -least), complex(least, -least), complex(least, 0), 0}, api.OK)
	// Noughts keep their signs.
	m := minusNought
	wantBox(t, of(m, 1, m, 1), list{complex(m, m), complex(1, m), 1 + 1i, complex(m, 1)}, api.OK)
	wantBox(t, of(-1, m, -1, m), list{-1 - 1i, complex(m, -1), complex(m, m), complex(-1, m)}, api.OK)
}

func TestP12_4BoxRefused(t *testing.T) {
	for _, b := range []api.Box{of(1, 0, 0, 1), of(0, 1, 1, 0), of(none, 1, 0, 1), of(0, 1, 0, none), of(0, infinite, 0, 1), of(0, 1, -infinite, 1), of(0x1p50, 0, 0, 1), of(0, 0x1p50, 1, 0), of(least, 0, 0, 1)} {
		wantBox(t, b, nil, api.ErrBox)
	}
	for _, b := range []api.Box{of(0, beyond, 0, 1), of(-beyond, 0, 0, 1), of(0, 1, 0, beyond), of(0, 1, -beyond, 1), of(-math.MaxFloat64, math.MaxFloat64, 0, 1), of(0, beyond, 1, 1), of(beyond, beyond, 0, 1), of(beyond, beyond, beyond, beyond)} {
		wantBox(t, b, nil, api.ErrReal)
	}
	m := minusNought
	for _, b := range []api.Box{of(0, 2, 0, 0), of(0, 0, 0, 2), of(1, 1, 1, 1), {}, of(0, m, 0, 1), of(m, 0, 0, 1), of(0, 1, 0, m), of(-1, 1, m, 0), of(most, most, 0, 1)} {
		wantBox(t, b, nil, api.ErrPath)
	}
}

// The operations as calls that are not inlined: none of them can be fused with another one.

//go:noinline
func plus(x, y float64) float64 { return x + y }

//go:noinline
func minus(x, y float64) float64 { return x - y }

//go:noinline
func times(x, y float64) float64 { return x * y }

//go:noinline
func over(x, y float64) float64 { return x / y }

// circleSteps are the chapter's words, one operation a call.
func circleSteps(c api.Circle, n int) list {
	p := math.Float64frombits(0x400921fb54442d18)
	l := make(list, n)
	for k := range l {
		turn := over(times(times(2, float64(k)), p), float64(n))
		sin, cos := angle.Turn(turn)
		x, y := times(c.Radius, cos), times(c.Radius, sin)
		l[k] = complex(plus(real(c.Centre), x), plus(imag(c.Centre), y))
	}
	return l
}

func TestP12_4CircleSteps(t *testing.T) {
	d := newDice()
	for _, n := range []int{3, 4, 5, 6, 7, 8, 12, 49, 100, 360, 1000, 4095, 4096} {
		for _, c := range []api.Circle{{Radius: 1}, {Centre: 3 - 1i, Radius: 0.1}, {Centre: complex(minusNought, minusNought), Radius: 0x1p-40}, {Radius: most}, {Centre: 1000, Radius: 1e6}} {
			wantCircle(t, c, n, circleSteps(c, n), api.OK)
		}
	}
	for range 3000 {
		c := api.Circle{Centre: complex(d.part(-20, 20), d.part(-20, 20)), Radius: math.Abs(d.part(-10, 20))}
		n := 3 + d.below(60)
		wantCircle(t, c, n, circleSteps(c, n), api.OK)
	}
}

func TestP12_4CircleReals(t *testing.T) {
	for _, x := range strange {
		wantCircle(t, api.Circle{Centre: complex(x, 0), Radius: 1}, 4, nil, api.ErrReal)
		wantCircle(t, api.Circle{Centre: complex(0, x), Radius: 1}, 4, nil, api.ErrReal)
		wantCircle(t, api.Circle{Radius: x}, 4, nil, api.ErrReal)
	}
	for _, r := range []float64{0, minusNought, -1, least, math.Nextafter(0x1p-40, 0), -0x1p-40, -most, beyond} {
		wantCircle(t, api.Circle{Radius: r}, 4, nil, api.ErrReal)
		wantCircle(t, api.Circle{Radius: r}, 2, nil, api.ErrReal)
	}
	for _, r := range []float64{0x1p-40, most} {
		c := api.Circle{Radius: r}
		wantCircle(t, c, 4, circleSteps(c, 4), api.OK)
	}
	// The circle goes beyond what places may be, its centre does not.
	wantCircle(t, api.Circle{Centre: most, Radius: 1}, 4, nil, api.ErrReal)
	wantCircle(t, api.Circle{Centre: complex(0, -most), Radius: 1}, 4, nil, api.ErrReal)
	wantCircle(t, api.Circle{Centre: complex(most-1, 1-most), Radius: 1}, 4, circleSteps(api.Circle{Centre: complex(most-1, 1-most), Radius: 1}, 4), api.OK)
}

func TestP12_4CircleCounts(t *testing.T) {
	for _, n := range []int{math.MinInt, -4, -1, 0, 1, 2, 4097, 5000, math.MaxInt} {
		wantCircle(t, api.Circle{Radius: 1}, n, nil, api.ErrArg)
		wantCircle(t, api.Circle{Centre: most, Radius: 0x1p-40}, n, nil, api.ErrArg)
		wantCircle(t, api.Circle{}, n, nil, api.ErrReal)
		wantCircle(t, api.Circle{Centre: complex(none, 0), Radius: 1}, n, nil, api.ErrReal)
	}
	for _, n := range []int{3, 4096} {
		wantCircle(t, api.Circle{Radius: 1}, n, circleSteps(api.Circle{Radius: 1}, n), api.OK)
	}
}

// Circles so small that places of theirs are alike, all of them or two neighbours, and one that is just great enough.
func TestP12_4CircleSmall(t *testing.T) {
	for _, r := range []struct {
		c api.Circle
		n int
		e api.Errno
	}{
		{api.Circle{Centre: complex(0x1p39, 0x1p39), Radius: 0x1p-40}, 4, api.ErrPath},
		{api.Circle{Centre: complex(0x1p39, 0x1p39), Radius: 0x1p-8}, 4096, api.ErrPath},
		{api.Circle{Centre: complex(0x1p39, 0x1p39), Radius: 0x1p-8}, 4, api.OK},
		{api.Circle{Centre: 0x1p20, Radius: 0x1p-30}, 4, api.OK},
		{api.Circle{Centre: 1 + 1i, Radius: 0x1p-40}, 8, api.OK},
		{api.Circle{Centre: 64 + 64i, Radius: 0x1p-40}, 4096, api.ErrPath},
		{api.Circle{Radius: 0x1p-40}, 4096, api.OK},
		{api.Circle{Centre: complex(most-1, most-1), Radius: 0x1p-40}, 3, api.ErrPath},
	} {
		steps := circleSteps(r.c, r.n)
		if refusal(steps) != r.e {
			t.Fatalf("%v of %d: the steps come to %d", r.c, r.n, refusal(steps))
		}
		if r.e != api.OK {
			steps = nil
		}
		wantCircle(t, r.c, r.n, steps, r.e)
	}
}
