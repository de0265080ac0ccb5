package box_test

import (
	"math"
	"testing"

	"eddy/api"
	"eddy/box"
)

// The operations as calls that are not inlined: none of them can be fused with another one.

//go:noinline
func plus(x, y float64) float64 { return x + y }

//go:noinline
func minus(x, y float64) float64 { return x - y }

//go:noinline
func times(x, y float64) float64 { return x * y }

//go:noinline
func over(x, y float64) float64 { return x / y }

func down(x float64) float64 { return math.Nextafter(x, -infinite) }

func up(x float64) float64 { return math.Nextafter(x, infinite) }

func least4(a, b, c, d float64) float64 { return math.Min(math.Min(math.Min(a, b), c), d) }

func greatest4(a, b, c, d float64) float64 { return math.Max(math.Max(math.Max(a, b), c), d) }

// The chapter's words of spans, one operation a call.

type span struct{ a, b float64 }

func sumSpan(x, y span) span { return span{down(plus(x.a, y.a)), up(plus(x.b, y.b))} }

func lessSpan(x, y span) span { return span{down(minus(x.a, y.b)), up(minus(x.b, y.a))} }

func mulSpan(x, y span) span {
	p, q, r, s := times(x.a, y.a), times(x.a, y.b), times(x.b, y.a), times(x.b, y.b)
	return span{down(least4(p, q, r, s)), up(greatest4(p, q, r, s))}
}

func squareSpan(x span) span {
	p, q := times(x.a, x.a), times(x.b, x.b)
	if x.a <= 0 && x.b >= 0 {
		return span{0, up(math.Max(p, q))}
	}
	return span{math.Max(0, down(math.Min(p, q))), up(math.Max(p, q))}
}

func overSpan(x, y span) span {
	p, q, r, s := over(x.a, y.a), over(x.a, y.b), over(x.b, y.a), over(x.b, y.b)
	return span{down(least4(p, q, r, s)), up(greatest4(p, q, r, s))}
}

func spans(b api.Box) (x, y span) {
	return span{real(b.Low), real(b.High)}, span{imag(b.Low), imag(b.High)}
}

func told(x, y span) (api.Box, api.Errno) {
	if !isFinite(x.a) || !isFinite(x.b) || !isFinite(y.a) || !isFinite(y.b) {
		return api.Box{}, api.ErrPlace
	}
	return of(x.a, x.b, y.a, y.b), api.OK
}

// Of boxes, one after the other.

func addSteps(a, b api.Box) (api.Box, api.Errno) {
	if !mayBe(a) || !mayBe(b) {
		return api.Box{}, api.ErrBox
	}
	x, y := spans(a)
	u, v := spans(b)
	return told(sumSpan(x, u), sumSpan(y, v))
}

func subSteps(a, b api.Box) (api.Box, api.Errno) {
	if !mayBe(a) || !mayBe(b) {
		return api.Box{}, api.ErrBox
	}
	x, y := spans(a)
	u, v := spans(b)
	return told(lessSpan(x, u), lessSpan(y, v))
}

func mulSteps(a, b api.Box) (api.Box, api.Errno) {
	if !mayBe(a) || !mayBe(b) {
		return api.Box{}, api.ErrBox
	}
	x, y := spans(a)
	u, v := spans(b)
	return told(lessSpan(mulSpan(x, u), mulSpan(y, v)), sumSpan(mulSpan(x, v), mulSpan(y, u)))
}

func turnedSteps(a api.Box) (api.Box, api.Errno) {
	if !mayBe(a) {
		return api.Box{}, api.ErrBox
	}
	x, y := spans(a)
	n := sumSpan(squareSpan(x), squareSpan(y))
	if !(n.a > 0) {
		return api.Box{}, api.ErrPlace
	}
	return told(overSpan(x, n), overSpan(span{-y.b, -y.a}, n))
}

// polySteps goes through the coefficients' boxes, the last one first.
func polySteps(boxes []api.Box, b api.Box) (api.Box, api.Errno) {
	v := boxes[0]
	for _, c := range boxes[1:] {
		p, e := mulSteps(v, b)
		if e != api.OK {
			return api.Box{}, e
		}
		if v, e = addSteps(p, c); e != api.OK {
			return api.Box{}, e
		}
	}
	return v, api.OK
}

func valueSteps(l list, b api.Box) (api.Box, api.Errno) {
	var boxes []api.Box
	for i := len(l) - 1; i >= 0; i-- {
		boxes = append(boxes, at(l[i]))
	}
	return polySteps(boxes, b)
}

func slopeSteps(l list, b api.Box) (api.Box, api.Errno) {
	var boxes []api.Box
	for i := len(l) - 1; i >= 1; i-- {
		c, e := mulSteps(at(l[i]), at(complex(float64(i), 0)))
		if e != api.OK {
			return api.Box{}, e
		}
		boxes = append(boxes, c)
	}
	if len(boxes) == 0 {
		return at(0), api.OK
	}
	return polySteps(boxes, b)
}

func middleSteps(a, b float64) float64 {
	m := plus(over(a, 2), over(b, 2))
	if m < a {
		return a
	}
	if m > b {
		return b
	}
	return m
}

type call struct {
	name         string
	does, should func(a, b api.Box) (api.Box, api.Errno)
}

func calls() []call {
	return []call{
		{"Add", box.Add, addSteps},
		{"Sub", box.Sub, subSteps},
		{"Mul", box.Mul, mulSteps},
		{"Turned", func(a, _ api.Box) (api.Box, api.Errno) { return box.Turned(a) }, func(a, _ api.Box) (api.Box, api.Errno) { return turnedSteps(a) }},
	}
}

// checkSteps asks a call, and the chapter's steps.
func checkSteps(t *testing.T, c call, a, b api.Box) api.Errno {
	t.Helper()
	ought, oughtE := c.should(a, b)
	got, e := c.does(a, b)
	if e != oughtE || !sameBoxes(got, ought) {
		t.Errorf("%s(%x, %x): %x, %d, not %x, %d", c.name, a, b, got, int(e), ought, int(oughtE))
	}
	return e
}

func TestP11_3And4Steps(t *testing.T) {
	for _, c := range calls() {
		d := newDice()
		seen := map[api.Errno]int{}
		for range 60000 {
			seen[checkSteps(t, c, d.box(), d.box())]++
			seen[checkSteps(t, c, d.plain(), d.plain())]++
			seen[checkSteps(t, c, d.wild(), d.box())]++
			seen[checkSteps(t, c, d.box(), d.wild())]++
		}
		if seen[api.OK] < 60000 || seen[api.ErrPlace] < 500 || seen[api.ErrBox] < 10000 {
			t.Errorf("%s: the dice are lame: %v", c.name, seen)
		}
	}
}

// All boxes of one part's worth of ends that may turn something.
func TestP11_3And4Edges(t *testing.T) {
	for _, c := range calls() {
		for _, x := range spansOf(strange) {
			for _, y := range spansOf(strange) {
				checkSteps(t, c, of(x[0], x[1], y[0], y[1]), of(-1, 2, least, 1))
				checkSteps(t, c, of(x[0], x[1], 0, 0), of(y[0], y[1], 0, 0))
				checkSteps(t, c, of(0, 0, x[0], x[1]), of(y[0], y[1], -3, 4))
				checkSteps(t, c, of(-1, 2, least, 1), of(x[0], x[1], y[0], y[1]))
			}
		}
	}
}

// Ends that underflow to nought, or pass all floats: each is the next float outward of what was rounded.
func TestP11_3Ends(t *testing.T) {
	up1, down1 := math.Nextafter(1, 2), math.Nextafter(1, 0)
	below := math.Nextafter(greatest, 0)
	none := api.Box{}
	for _, r := range []struct {
		name  string
		does  func(a, b api.Box) (api.Box, api.Errno)
		a, b  api.Box
		ought api.Box
		e     api.Errno
	}{
		{"sum of noughts", box.Add, at(0), at(0), of(-least, least, -least, least), api.OK},
		{"sum of minus noughts", box.Add, at(complex(minusNought, minusNought)), at(complex(minusNought, minusNought)), of(-least, least, -least, least), api.OK},
		{"sum next to nought", box.Add, of(least, 1, -1, -least), at(0), of(0, up1, -up1, minusNought), api.OK},
		{"sum", box.Add, of(1, 2, -3, 4), of(0, 0, 0, 0), of(down1, math.Nextafter(2, 3), math.Nextafter(-3, -4), math.Nextafter(4, 5)), api.OK},
		{"sum at the end of floats", box.Add, of(below, below, 0, 0), at(0), of(math.Nextafter(below, 0), greatest, -least, least), api.OK},
		{"sum: moved out of all floats", box.Add, of(0, greatest, 0, 0), at(0), none, api.ErrPlace},
		{"sum: moved out below", box.Add, of(-greatest, 0, 0, 0), at(0), none, api.ErrPlace},
		{"sum: moved out, im", box.Add, of(0, 0, 0, greatest), at(0), none, api.ErrPlace},
		{"sum: moved out below, im", box.Add, of(0, 0, -greatest, 0), at(0), none, api.ErrPlace},
		{"sum beyond all floats", box.Add, at(greatest), at(greatest), none, api.ErrPlace},
		{"sum below all floats", box.Add, at(-greatest), at(-greatest), none, api.ErrPlace},
		{"difference of alike ones", box.Sub, at(1 + 1i), at(1 + 1i), of(-least, least, -least, least), api.OK},
		{"difference of a box and itself", box.Sub, of(1, 3, 0, 0), of(1, 3, 0, 0), of(math.Nextafter(-2, -3), math.Nextafter(2, 3), -least, least), api.OK},
		{"difference beyond", box.Sub, of(0, greatest, 0, 0), of(-greatest, 0, 0, 0), none, api.ErrPlace},
		{"difference below, im", box.Sub, of(0, 0, -greatest, 0), of(0, 0, 0, greatest), none, api.ErrPlace},
		{"product of noughts", box.Mul, at(0), at(0), of(-3*least, 3*least, -3*least, 3*least), api.OK},
		{"product that underflows", box.Mul, at(0x1p-600), at(0x1p-600), of(-3*least, 3*least, -3*least, 3*least), api.OK},
		{"product that underflows to the least", box.Mul, at(0x1p-537), at(0x1p-537), of(-2*least, 4*least, -3*least, 3*least), api.OK},
		{"product beyond", box.Mul, at(0x1p600), at(0x1p600), none, api.ErrPlace},
		{"product below, im", box.Mul, at(0x1p600i), at(-0x1p600), none, api.ErrPlace},
		{"product beyond, on one end alone", box.Mul, of(0, 0x1p600, 0, 0), at(0x1p600), none, api.ErrPlace},
		{"product beyond both ways", box.Mul, at(complex(0x1p600, 0x1p600)), at(complex(0x1p600, 0x1p600)), none, api.ErrPlace},
	} {
		got, e := r.does(r.a, r.b)
		wantBox(t, r.name, r.ought, r.e, got, e)
	}
}

func TestP11_4Turned(t *testing.T) {
	none := api.Box{}
	for _, r := range []struct {
		name string
		a    api.Box
		e    api.Errno
	}{
		{"nought inside", of(-1, 1, -1, 1), api.ErrPlace},
		{"nought at a corner", of(0, 1, 0, 1), api.ErrPlace},
		{"nought alone", at(0), api.ErrPlace},
		{"minus nought alone", at(complex(minusNought, minusNought)), api.ErrPlace},
		{"noughts the wrong way round", of(0, minusNought, 0, minusNought), api.ErrPlace},
		{"nought on a side", of(-1, 1, 0, 1), api.ErrPlace},
		{"a square that underflows", at(0x1p-600), api.ErrPlace},
		{"a square of the least", at(0x1p-537), api.ErrPlace},
		{"squares of the least in both parts", at(complex(0x1p-537, 0x1p-537)), api.ErrPlace},
		{"a square of twice the least", at(0x1.7p-537), api.ErrPlace},
		{"one above nought whose quotient is told", at(0x1p-536), api.OK},
		{"a quotient beyond", of(0x1p-536, 0x1p500, 0, 0), api.ErrPlace},
		{"a quotient below", of(-0x1p500, -0x1p-536, 0, 0), api.ErrPlace},
		{"a quotient beyond, im", of(0, 0, -0x1p500, -0x1p-536), api.ErrPlace},
		{"a quotient below, im", of(0, 0, 0x1p-536, 0x1p500), api.ErrPlace},
		{"beside nought", of(1, 2, -1, 1), api.OK},
		{"above nought", of(-1, 1, 1, 2), api.OK},
		{"below nought", of(-1, 1, -2, -1), api.OK},
		{"squares beyond all floats", at(0x1p600), api.OK},
		{"one square beyond", of(1, 0x1p600, 0, 0), api.OK},
		{"all floats of one side", of(1, greatest, -greatest, greatest), api.ErrPlace},
		{"one that may not be", of(2, 1, 0, 0), api.ErrBox},
		{"an infinite one", of(2, infinite, 0, 0), api.ErrBox},
	} {
		got, e := box.Turned(r.a)
		ought, oughtE := turnedSteps(r.a)
		if e != r.e || e != oughtE || !sameBoxes(got, ought) || e != api.OK && !sameBoxes(got, none) {
			t.Errorf("%s: %x, %d, not %x, %d, %d", r.name, got, int(e), ought, int(oughtE), int(r.e))
		}
	}
	// A square about nought begins at nought itself, one that is not no lower: all of the norm is moved down once.
	got, e := box.Turned(of(1, 1, -1, 1))
	low := math.Nextafter(math.Nextafter(1, 0), 0)
	high := up(2 * up(1))
	wantBox(t, "about nought", of(down(1/high), up(1/low), down(-1/low), up(1/low)), api.OK, got, e)
}

func wantPoly(t *testing.T, l list, b, ought api.Box, oughtE api.Errno) {
	t.Helper()
	if got, e := box.Poly(l, b); e != oughtE || !sameBoxes(got, ought) {
		t.Errorf("Poly(%x, %x): %x, %d, not %x, %d", l, b, got, int(e), ought, int(oughtE))
	}
}

func wantSlope(t *testing.T, l list, b, ought api.Box, oughtE api.Errno) {
	t.Helper()
	if got, e := box.Slope(l, b); e != oughtE || !sameBoxes(got, ought) {
		t.Errorf("Slope(%x, %x): %x, %d, not %x, %d", l, b, got, int(e), ought, int(oughtE))
	}
}

func TestP11_5Steps(t *testing.T) {
	d := newDice()
	seen := map[api.Errno]int{}
	check := func(l list, b api.Box) {
		ought, e := valueSteps(l, b)
		wantPoly(t, l, b, ought, e)
		seen[e]++
		ought, e = slopeSteps(l, b)
		wantSlope(t, l, b, ought, e)
		seen[e]++
	}
	for range 6000 {
		check(d.polynomial(6, 5), d.plain())
		check(d.polynomial(6, 40), d.box())
		check(d.polynomial(64, 3), d.plain())
		check(d.polynomial(2, 3), d.box())
	}
	if seen[api.OK] < 20000 || seen[api.ErrPlace] < 1000 {
		t.Errorf("the dice are lame: %v", seen)
	}
}

func TestP11_5Edges(t *testing.T) {
	line, bad := of(1, 2, 0, 0), of(2, 1, 0, 0)
	none := api.Box{}
	for _, l := range []list{nil, {}, {1, 0}, {0, complex(minusNought, 0)}, {complex(infinite, 0), 1}, {1, complex(0, math.NaN())}, {complex(math.Nextafter(most, infinite), 0)}, make(list, 66), filled(66, 1)} {
		for _, b := range []api.Box{line, bad, of(0, infinite, 0, 0), of(0, math.NaN(), 0, 0)} {
			wantPoly(t, l, b, none, api.ErrPoly)
			wantSlope(t, l, b, none, api.ErrPoly)
		}
	}
	for _, l := range []list{{0}, {5}, {1, 2, 3}} {
		for _, b := range []api.Box{bad, of(0, 0, 1, 0), of(0, infinite, 0, 0), of(0, 0, math.NaN(), 0)} {
			wantPoly(t, l, b, none, api.ErrBox)
			wantSlope(t, l, b, none, api.ErrBox)
		}
	}
	for _, b := range []api.Box{line, at(0), of(-greatest, greatest, -greatest, greatest)} {
		for _, c := range []complex128{5, 0, complex(minusNought, minusNought), complex(-1, minusNought), most - most*1i} {
			wantPoly(t, list{c}, b, at(c), api.OK)
			wantSlope(t, list{c}, b, at(0), api.OK)
		}
	}
	// Of the degree 1 the slope is the one coefficient times 1, whatever the box.
	ought, e := mulSteps(at(3-4i), at(1))
	wantSlope(t, list{7, 3 - 4i}, of(-greatest, greatest, 0, 0), ought, e)
}

// The product passes all floats, or the sum does, at the first step or later.
func TestP11_5Place(t *testing.T) {
	none := api.Box{}
	wantPoly(t, list{1, most}, at(0x1p1000), none, api.ErrPlace)
	wantPoly(t, list{1, most}, of(0, 0, -0x1p1000, 0), none, api.ErrPlace)
	wantPoly(t, list{1, 1, 1}, at(0x1p600), none, api.ErrPlace)
	wantPoly(t, list{1, 0, 0, 0, 1}, at(0x1p300), none, api.ErrPlace)
	wantPoly(t, list{0, 1}, at(greatest), none, api.ErrPlace)
	wantSlope(t, list{1, 1, most}, at(0x1p1000), none, api.ErrPlace)
	wantSlope(t, list{1, 0, 0, 1}, at(0x1p600), none, api.ErrPlace)
	wantPoly(t, list{1, 0, most}, of(-greatest, greatest, 0, 0), none, api.ErrPlace)
	if _, e := box.Poly(list{1, 1}, at(0x1p1000)); e != api.OK {
		t.Error(int(e))
	}
	if _, e := box.Slope(list{1, 1, 1}, at(0x1p1000)); e != api.OK {
		t.Error(int(e))
	}
}

func wantMiddle(t *testing.T, b api.Box, ought complex128, oughtE api.Errno) {
	t.Helper()
	if m, e := box.Middle(b); e != oughtE || !same(m, ought) {
		t.Errorf("Middle(%x): %x, %d, not %x, %d", b, m, int(e), ought, int(oughtE))
	}
}

func wantWide(t *testing.T, b api.Box, ought float64, oughtE api.Errno) {
	t.Helper()
	if w, e := box.Wide(b); e != oughtE || !sameFloats(w, ought) {
		t.Errorf("Wide(%x): %x, %d, not %x, %d", b, w, int(e), ought, int(oughtE))
	}
}

func wantFour(t *testing.T, b api.Box, ought [4]api.Box, oughtE api.Errno) {
	t.Helper()
	l, e := box.Four(b)
	if e != oughtE {
		t.Errorf("Four(%x): %d, not %d", b, int(e), int(oughtE))
	}
	for i := range l {
		if !sameBoxes(l[i], ought[i]) {
			t.Errorf("Four(%x): number %d is %x, not %x", b, i, l[i], ought[i])
		}
	}
}

// checkParts asks all three of one box.
func checkParts(t *testing.T, b api.Box) {
	t.Helper()
	if !mayBe(b) {
		wantMiddle(t, b, 0, api.ErrBox)
		wantFour(t, b, [4]api.Box{}, api.ErrBox)
		wantWide(t, b, 0, api.ErrBox)
		return
	}
	x, y := spans(b)
	m, n := middleSteps(x.a, x.b), middleSteps(y.a, y.b)
	wantMiddle(t, b, complex(m, n), api.OK)
	wantFour(t, b, [4]api.Box{of(x.a, m, y.a, n), of(m, x.b, y.a, n), of(x.a, m, n, y.b), of(m, x.b, n, y.b)}, api.OK)
	w := math.Max(minus(x.b, x.a), minus(y.b, y.a))
	if !isFinite(w) {
		wantWide(t, b, 0, api.ErrPlace)
		return
	}
	wantWide(t, b, w, api.OK)
}

func TestP11_6Steps(t *testing.T) {
	d := newDice()
	for range 60000 {
		checkParts(t, d.box())
		checkParts(t, d.plain())
		checkParts(t, d.wild())
	}
	for _, x := range spansOf(strange) {
		for _, y := range spansOf(strange) {
			checkParts(t, of(x[0], x[1], y[0], y[1]))
		}
	}
}

func TestP11_6Edges(t *testing.T) {
	for _, r := range []struct {
		name      string
		low, high float64
		ought     float64
	}{
		{"the least alone, whose halves are nought", least, least, least},
		{"and below nought", -least, -least, -least},
		{"the least and its neighbour", least, 2 * least, least},
		{"three of them, halves to the even one", 3 * least, 3 * least, 3 * least},
		{"five of them", 5 * least, 5 * least, 5 * least},
		{"below nought, three", -3 * least, -3 * least, -3 * least},
		{"about nought", -least, least, 0},
		{"from nought", 0, least, 0},
		{"up to nought", -least, 0, 0},
		{"up to minus nought", -least, minusNought, minusNought},
		{"minus nought alone", minusNought, minusNought, minusNought},
		{"noughts", minusNought, 0, 0},
		{"noughts the wrong way round", 0, minusNought, 0},
		{"the greatest alone", greatest, greatest, greatest},
		{"great ones, whose sum passes all floats", 0x1p1023, greatest, 0x1.7ffffffffffffp1023 + 0x1p970},
		{"below nought", -greatest, -greatest, -greatest},
		{"all floats", -greatest, greatest, 0},
		{"neighbours", 1, math.Nextafter(1, 2), 1},
		{"ordinary ones", -1, 4, 1.5},
	} {
		t.Run(r.name, func(t *testing.T) {
			wantMiddle(t, of(r.low, r.high, r.low, r.high), complex(r.ought, r.ought), api.OK)
			wantMiddle(t, of(r.low, r.high, 1, 5), complex(r.ought, 3), api.OK)
			wantMiddle(t, of(1, 5, r.low, r.high), complex(3, r.ought), api.OK)
			wantFour(t, of(r.low, r.high, 1, 5), [4]api.Box{of(r.low, r.ought, 1, 3), of(r.ought, r.high, 1, 3), of(r.low, r.ought, 3, 5), of(r.ought, r.high, 3, 5)}, api.OK)
		})
	}
	wantWide(t, of(-0x1p1023, 0x1p1023, 0, 0), 0, api.ErrPlace)
	wantWide(t, of(0, 0, -greatest, greatest), 0, api.ErrPlace)
	wantWide(t, of(0, 1, -greatest, greatest), 0, api.ErrPlace)
	wantWide(t, of(0, greatest, 0, 1), greatest, api.OK)
	wantWide(t, of(0, 1, -3, 5), 8, api.OK)
	wantWide(t, of(-3, 5, 0, 1), 8, api.OK)
	wantWide(t, at(7-7i), 0, api.OK)
	wantWide(t, at(complex(minusNought, minusNought)), 0, api.OK)
	wantWide(t, of(0, minusNought, 0, minusNought), minusNought, api.OK)
	wantWide(t, of(0, minusNought, 0, 0), 0, api.OK)
	wantWide(t, of(1, 0, 0, 0), 0, api.ErrBox)
	wantWide(t, of(-infinite, 0, 0, 0), 0, api.ErrBox)
}

// Whatever bits a call is handed, it ends, does not panic, and answers a box that may be or nothing.
func TestR1AnyBits(t *testing.T) {
	d := newDice()
	for range 60000 {
		a, b := d.wild(), d.wild()
		z := complex(math.Float64frombits(d.word()), math.Float64frombits(d.word()))
		l := make(list, d.below(5))
		for i := range l {
			l[i] = complex(strange[d.below(len(strange))], math.Float64frombits(d.word()))
		}
		box.Has(a, z)
		for _, c := range calls() {
			checkSteps(t, c, a, b)
		}
		for _, does := range []func(list, api.Box) (api.Box, api.Errno){box.Poly, box.Slope} {
			got, e := does(l, a)
			if e == api.OK && !mayBe(got) || e != api.OK && !sameBoxes(got, api.Box{}) {
				t.Errorf("%x, %x: %x, %d", l, a, got, int(e))
			}
		}
	}
}
