package flow_test

import (
	"math"
	"testing"

	"eddy/api"
	"eddy/flow"
)

func sub(a, b complex128) complex128 {
	return complex(minus(real(a), real(b)), minus(imag(a), imag(b)))
}

func mul(a, b complex128) complex128 {
	p, q, r, s := real(a), imag(a), real(b), imag(b)
	return complex(minus(times(p, r), times(q, s)), plus(times(p, s), times(q, r)))
}

func scale(a complex128, by float64) complex128 {
	return complex(times(real(a), by), times(imag(a), by))
}

// Chapter 8's words, one operation a call. What may be refused leaves by a panic, which refusal takes as the error.

func answer(l list) list {
	for len(l) > 1 && l[len(l)-1] == 0 {
		l = l[:len(l)-1]
	}
	if len(l)-1 > degrees {
		panic(api.ErrMany)
	}
	for _, c := range l {
		if !isReal(c) {
			panic(api.ErrPlace)
		}
	}
	return l
}

func isReal(a complex128) bool {
	return math.Abs(real(a)) <= farthest && math.Abs(imag(a)) <= farthest
}

func isNoughtPolynomial(l list) bool { return len(l) == 1 && l[0] == 0 }

func plusSteps(a, b list) list {
	out := list{}
	for i := range max(len(a), len(b)) {
		switch {
		case i >= len(a):
			out = append(out, b[i])
		case i >= len(b):
			out = append(out, a[i])
		default:
			out = append(out, add(a[i], b[i]))
		}
	}
	return answer(out)
}

// timesSteps is of a first factor that may be beyond the reals, where it is one number.
func timesSteps(a, b list) list {
	if len(a) == 1 && !isReal(a[0]) {
		panic(api.ErrPoly)
	}
	if isNoughtPolynomial(a) || isNoughtPolynomial(b) {
		return list{0}
	}
	if len(a)+len(b)-2 > degrees {
		panic(api.ErrMany)
	}
	out, met := make(list, len(a)+len(b)-1), make([]bool, len(a)+len(b)-1)
	for i, x := range a {
		for j, y := range b {
			if p := mul(x, y); met[i+j] {
				out[i+j] = add(out[i+j], p)
			} else {
				out[i+j], met[i+j] = p, true
			}
		}
	}
	return answer(out)
}

func ofSteps(zeros list) list {
	if len(zeros) > degrees {
		panic(api.ErrMany)
	}
	p := list{1}
	for _, z := range zeros {
		next := list{neg(mul(z, p[0]))}
		for i := 1; i < len(p); i++ {
			next = append(next, sub(p[i-1], mul(z, p[i])))
		}
		p = append(next, p[len(p)-1])
	}
	return answer(p)
}

// Chapter 16's own words.

func isBroken(x api.Element) bool {
	return x.Kind == api.Corner && x.Power != 1 && x.Power != 2 && x.Power != 3 && x.Power != 4
}

// asks is how often the place of an element is a root, for its own sake.
func asks(x api.Element) int {
	switch x.Kind {
	case api.Source:
		return 1
	case api.Doublet:
		return int(x.Power) + 1
	}
	return 0
}

// rootsSteps goes to each place that was not met ahead, and looks at all elements for how many times it is to be told.
func rootsSteps(f api.Flow) list {
	var l list
	for _, x := range f.Elements {
		met := false
		for _, r := range l {
			met = met || like(r, x.At)
		}
		if met {
			continue
		}
		times := 0
		for _, y := range f.Elements {
			if like(y.At, x.At) {
				times = max(times, asks(y))
			}
		}
		if asks(x) > 0 {
			l = append(l, filled(times, x.At)...)
		}
	}
	return l
}

// withoutSteps leaves out the first n roots that are like at.
func withoutSteps(roots list, at complex128, n int) list {
	var l list
	for _, r := range roots {
		if n > 0 && like(r, at) {
			n--
		} else {
			l = append(l, r)
		}
	}
	return l
}

func partSteps(x api.Element, roots, bottom list) list {
	switch x.Kind {
	case api.Stream:
		return timesSteps(list{x.Strength}, bottom)
	case api.Source:
		rest := ofSteps(withoutSteps(roots, x.At, 1))
		return timesSteps(list{scale(x.Strength, over(1, times(2, half)))}, rest)
	case api.Doublet:
		n := int(x.Power)
		rest := ofSteps(withoutSteps(roots, x.At, n+1))
		return timesSteps(list{scale(x.Strength, float64(-n))}, rest)
	}
	n := int(x.Power)
	own := ofSteps(filled(n-1, x.At))
	return timesSteps(timesSteps(list{scale(x.Strength, float64(n))}, own), bottom)
}

func fractionSteps(f api.Flow) (out api.Fraction, is bool, e api.Errno) {
	defer func() {
		if r := recover(); r != nil {
			out, is, e = api.Fraction{}, false, r.(api.Errno)
		}
	}()
	for _, x := range f.Elements {
		if isBroken(x) {
			return api.Fraction{}, false, api.OK
		}
	}
	roots := rootsSteps(f)
	bottom := ofSteps(roots)
	top := list{0}
	for _, x := range f.Elements {
		top = plusSteps(top, partSteps(x, roots, bottom))
	}
	return api.Fraction{Top: top, Bottom: bottom}, true, api.OK
}

// wantSteps holds Fraction against the words, and tells what came out.
func wantSteps(t *testing.T, f api.Flow) api.Errno {
	t.Helper()
	ought, is, e := fractionSteps(f)
	wantFraction(t, f, ought, is, e)
	return e
}

func TestP16_5BySteps(t *testing.T) {
	d := newDice()
	told := map[api.Errno]int{}
	for i := range 40000 {
		n := d.below(6)
		if i%20 == 0 {
			n = d.below(40)
		}
		throw := d.rational
		switch i % 50 {
		case 0:
			throw = d.element
		case 1, 2: // many roots, not far off
			throw = d.folded
			n = 6 + d.below(10)
		case 3, 4: // great numbers
			throw = d.great
			n = 1 + d.below(3)
		}
		told[wantSteps(t, d.flow(n, throw))]++
	}
	if told[api.OK] < 20000 || told[api.ErrPlace] < 500 || told[api.ErrMany] < 100 || told[api.ErrPoly] < 100 {
		t.Errorf("too few of a kind: %v", told)
	}
}

// folded is a Doublet or a Corner next to nought, or a Stream.
func (d *dice) folded() api.Element {
	at, s := complex(d.part(-12, -2), d.part(-12, -2)), d.strength()
	switch d.below(8) {
	case 0:
		return stream(s)
	case 1:
		return corner(at, s, float64(1+d.below(4)))
	}
	return doublet(at, s, float64(5+d.below(4)))
}

// great has numbers of which a few at once are beyond the reals.
func (d *dice) great() api.Element {
	x := d.rational()
	x.Strength *= 0x1p34
	if x.Kind != api.Stream {
		x.At = complex(d.part(6, 18), d.part(6, 18))
	}
	if !isReal(x.Strength) {
		x.Strength = farthest
	}
	return x
}

// At few places, with whole numbers, many coefficients come to nought.
func TestP16_5StepsOfWholes(t *testing.T) {
	d := newDice()
	for range 20000 {
		f := d.flow(d.below(7), d.rational)
		for i := range f.Elements {
			x := &f.Elements[i]
			x.Strength = d.wholes(2)
			if x.Kind != api.Stream {
				x.At = complex(d.whole(1), real(d.nought()))
			}
		}
		wantSteps(t, f)
	}
}

// wantLike passes over the signs of noughts, of which a product makes many.
func wantLike(t *testing.T, f api.Flow, top, bottom list) {
	t.Helper()
	got, ok, e := flow.Fraction(f)
	if !ok || e != api.OK || !likeLists(got.Top, top) || !likeLists(got.Bottom, bottom) {
		t.Errorf("Fraction of %v: %v, %t, %d, not %v / %v", f, got, ok, int(e), top, bottom)
	}
	wantSteps(t, f)
}

func likeLists(a, b list) bool {
	if len(a) != len(b) {
		return false
	}
	for i := range a {
		if !like(a[i], b[i]) {
			return false
		}
	}
	return true
}

// turns is a Source whose speed is s over the distance: 2 Pi as a float times its quotient is 1.
func turns(at, s complex128) api.Element { return source(at, s*complex(2*half, 0)) }

func TestP16_5Fractions(t *testing.T) {
	for _, c := range []struct {
		f           api.Flow
		top, bottom list
	}{
		{of(), list{0}, list{1}},
		{of(stream(2 - 1i)), list{2 - 1i}, list{1}},
		{of(stream(0)), list{0}, list{1}},
		{of(turns(1i, 2)), list{2}, list{-1i, 1}},
		{of(doublet(1, 3, 1)), list{-3}, list{1, -2, 1}},
		{of(doublet(1, 3, 2)), list{-6}, list{-1, 3, -3, 1}},
		{of(corner(5, 3, 1)), list{3}, list{1}},
		{of(corner(5, 3, 2)), list{-30, 6}, list{1}},
		{of(corner(1i, 2, 3)), list{-6, -12i, 6}, list{1}},
		{of(corner(1, 1, 4)), list{-4, 12, -12, 4}, list{1}},
		{of(stream(1), doublet(0, 1, 1)), list{-1, 0, 1}, list{0, 0, 1}},
		{of(corner(1, 1, 2), doublet(0, 1, 1)), list{-1, 0, -2, 2}, list{0, 0, 1}},
		// several at one place: it is a root as often as the one that asks for most
		{of(turns(1, 2), turns(1, 3)), list{5}, list{-1, 1}},
		{of(doublet(0, 1, 1), turns(0, 1)), list{-1, 1}, list{0, 0, 1}},
		{of(turns(0, 1), doublet(0, 1, 1)), list{-1, 1}, list{0, 0, 1}},
		{of(turns(0, 1), doublet(0, 1, 3), doublet(0, 1, 1)), list{-3, 0, -1, 1}, list{0, 0, 0, 0, 1}},
		{of(doublet(0, 1, 2), doublet(0, 2, 1), doublet(0, 1, 2)), list{-4, -2}, list{0, 0, 0, 1}},
		{of(doublet(0, 1, 1), doublet(0, -1, 1)), list{0}, list{0, 0, 1}}, // nothing is left, but the bottom stays
		{of(turns(2, 0), stream(1)), list{-2, 1}, list{-2, 1}},            // of the strength nought, too
		// at several
		{of(turns(1, 1), turns(-1, 1)), list{0, 2}, list{-1, 0, 1}},
		{of(doublet(1, 1, 1), turns(-1, 1)), list{0, -3, 1}, list{1, -1, -1, 1}},
		{of(doublet(1, 1, 1), doublet(1, 1, 2), doublet(-1, 1, 1)), list{0, -6, 0, -2}, list{-1, 1, 2, -2, -1, 1}},
		{of(turns(1, 1), turns(-1, 2), doublet(1, 1, 1), turns(-1, -2)), list{-2, -1, 1}, list{1, -1, -1, 1}},
	} {
		wantLike(t, c.f, c.top, c.bottom)
	}
}

// A Corner that is not whole leaves no fraction, whatever else would be refused.
func TestP16_5BrokenPowers(t *testing.T) {
	for _, p := range []float64{0.25, 0.5, math.Nextafter(1, 0), math.Nextafter(1, 2), 1.5, math.Nextafter(2, 0), 2.5, math.Nextafter(3, 4), math.Nextafter(4, 0)} {
		for _, s := range []complex128{1, 0} {
			x := corner(0, s, p)
			for _, f := range []api.Flow{of(x), of(x, stream(1)), of(source(0, 1), x), of(stream(farthest), stream(farthest), x), of(doublet(0, farthest, 8), x), of(x, doublet(0, farthest, 8))} {
				wantFraction(t, f, api.Fraction{}, false, api.OK)
			}
			wantFraction(t, api.Flow{Elements: append(spread(9, 8).Elements, x)}, api.Fraction{}, false, api.OK)
		}
	}
	for _, p := range []float64{1, 2, 3, 4} {
		if _, ok, e := flow.Fraction(of(corner(1, 1, p))); !ok || e != api.OK {
			t.Errorf("Fraction of a Corner of %v: %t, %d", p, ok, int(e))
		}
	}
}

// spread are so many Doublets near to 0, at unlike places: each of them asks for a root more than its power.
func spread(n int, power float64) api.Flow {
	var f api.Flow
	for k := range n {
		f.Elements = append(f.Elements, doublet(complex(0x1p-10*float64(k), 0), 1, power))
	}
	return f
}

// rootsAre are elements that have so many roots together, all near to 0.
func rootsAre(n int) []api.Element {
	l := spread(n/9, 8).Elements
	for k := range n % 9 {
		l = append(l, source(complex(-0x1p-10, 0x1p-10*float64(k)), 1))
	}
	return l
}

func TestP16_5Degrees(t *testing.T) {
	for _, c := range []struct {
		roots int
		more  []api.Element
		e     api.Errno
	}{
		{63, nil, api.OK},
		{64, nil, api.OK},
		{65, nil, api.ErrMany},
		{72, nil, api.ErrMany},
		{90, nil, api.ErrMany},
		{64, []api.Element{stream(1)}, api.OK},
		{64, []api.Element{doublet(0, 1, 8)}, api.OK}, // its roots are there
		{63, []api.Element{source(1, 1)}, api.OK},
		{64, []api.Element{source(1, 1)}, api.ErrMany},
		{61, []api.Element{doublet(1, 1, 2)}, api.OK},
		{61, []api.Element{doublet(1, 1, 3)}, api.ErrMany},
		{64, []api.Element{corner(1, 1, 1)}, api.OK},
		{64, []api.Element{corner(1, 1, 2)}, api.ErrMany}, // Bottom may be, Top may not
		{63, []api.Element{corner(1, 1, 2)}, api.OK},
		{63, []api.Element{corner(1, 1, 3)}, api.ErrMany},
		{61, []api.Element{corner(1, 1, 4)}, api.OK},
		{62, []api.Element{corner(1, 1, 4)}, api.ErrMany},
		{64, []api.Element{corner(1, 0, 4)}, api.OK}, // nought times a product is of no degree
		{64, []api.Element{corner(1, 1, 4), corner(1, -1, 4)}, api.ErrMany},
	} {
		for _, f := range []api.Flow{of(append(rootsAre(c.roots), c.more...)...), of(append(append([]api.Element{}, c.more...), rootsAre(c.roots)...)...)} {
			if e := wantSteps(t, f); e != c.e {
				t.Errorf("%d roots and %v: %d, not %d", c.roots, c.more, int(e), int(c.e))
			}
		}
	}
	// Many elements at few places.
	wantLike(t, repeated(many, turns(0, 1)), list{many}, list{0, 1})
	wantLike(t, repeated(many, stream(1)), list{many}, list{1})
	wantFraction(t, spread(many, 8), api.Fraction{}, false, api.ErrMany)
	var wide api.Flow
	for k := range many {
		wide.Elements = append(wide.Elements, source(complex(float64(k), 0), 1))
	}
	wantFraction(t, wide, api.Fraction{}, false, api.ErrMany)
}

// put is a flow of elements and of lists of them.
func put(l ...any) (f api.Flow) {
	for _, x := range l {
		switch x := x.(type) {
		case api.Element:
			f.Elements = append(f.Elements, x)
		case []api.Element:
			f.Elements = append(f.Elements, x...)
		}
	}
	return f
}

// The flows below come to an error by one thing, and by two of which the first counts.
func TestP16_5FirstError(t *testing.T) {
	far, farther := source(0x1p30, 1), source(0x1p30*1i, 1) // both, and Bottom is beyond the reals
	whole, opposite := stream(farthest), stream(-farthest)  // two of one of them, and the sum is beyond
	light, strong := doublet(0, farthest, 1), corner(1, farthest, 1)
	heavy, weight := doublet(0, farthest, 2), corner(0, farthest, 2)     // twice their strength is beyond
	late, both := corner(0x1p30, 1, 3), corner(0x1p30, farthest, 3)      // the square of their place is
	wide, narrow := corner(0x1p20, 0x1p30, 2), corner(0x1p20, 0x1p19, 2) // the product of place and strength is; and is just a real
	great, crowd := corner(1, 1, 4), rootsAre(64)                        // too many together, for Top
	for i, c := range []struct {
		f api.Flow
		e api.Errno
	}{
		{put(far), api.OK},
		{put(far, farther), api.ErrPlace},
		{put(heavy), api.ErrPoly},
		{put(late), api.ErrPlace},
		{put(both), api.ErrPlace},
		{put(weight), api.ErrPoly},
		{put(wide), api.ErrPlace},
		{put(narrow), api.OK},
		{put(light), api.OK},
		{put(strong), api.OK},
		{put(whole, whole), api.ErrPlace},
		{put(whole, opposite, whole), api.OK},
		{put(whole, whole, opposite), api.ErrPlace},
		{put(whole, strong, opposite), api.ErrPlace},
		// Bottom's ahead of all
		{put(heavy, far, farther), api.ErrPlace},
		{put(heavy, crowd, source(1, 1)), api.ErrMany},
		{put(late, crowd, source(1, 1)), api.ErrMany},
		{put(far, farther, crowd), api.ErrMany}, // how many ahead of what comes of them
		// then element by element
		{put(heavy, late), api.ErrPoly},
		{put(late, heavy), api.ErrPlace},
		{put(whole, whole, heavy), api.ErrPlace},
		{put(whole, heavy, whole), api.ErrPoly},
		{put(weight, whole, whole), api.ErrPoly},
		{put(great, crowd, heavy), api.ErrMany},
		{put(heavy, great, crowd), api.ErrPoly},
		{put(late, great, crowd), api.ErrPlace},
		{put(great, late, crowd), api.ErrMany},
		// within a Corner: its place, its strength, both, and then Bottom
		{put(both, crowd), api.ErrPlace},
		{put(weight, crowd), api.ErrPoly},
		{put(wide, crowd), api.ErrPlace},
		{put(narrow, crowd), api.ErrMany},
		{put(corner(0x1p20, 0x1p19, 2), source(4, 1)), api.ErrPlace},
		{put(corner(0x1p20, 0x1p17, 2), source(4, 0)), api.OK},       // just a real
		{put(corner(0x1p20, 0x1p17, 2), source(4, 1)), api.ErrPlace}, // and a little more
		{put(whole, source(2, 1)), api.ErrPlace},                     // a Stream times Bottom
	} {
		if e := wantSteps(t, c.f); e != c.e {
			t.Errorf("%d: %d, not %d", i, int(e), int(c.e))
		}
	}
}

// The power of z + 1 that is left without the roots at 1 is beyond the reals, Bottom is not.
func TestP16_5PartBeyond(t *testing.T) {
	var crowd []api.Element // 44 roots next to -1
	for k := range 5 {
		crowd = append(crowd, doublet(complex(-1, 0x1p-30*float64(k)), 1, 8))
	}
	crowd[4].Power = 7
	for _, c := range []struct {
		x api.Element
		e api.Errno
	}{
		{source(1, 1), api.ErrPlace},
		{source(1, 0), api.ErrPlace},
		{doublet(1, 1, 1), api.ErrPlace},
		{doublet(1, farthest, 2), api.ErrPlace}, // ahead of its strength
	} {
		if e := wantSteps(t, of(append(crowd, c.x)...)); e != c.e {
			t.Errorf("with %v: %d, not %d", c.x, int(e), int(c.e))
		}
	}
	if e := wantSteps(t, of(append(crowd, corner(1, 0, 2))...)); e != api.ErrPlace { // no root at 1, and Bottom is beyond
		t.Errorf("alone: %d", int(e))
	}
	few := append(crowd[:4:4], doublet(1, farthest, 2)) // 36 roots: its strength alone is beyond
	if e := wantSteps(t, of(few[4], few[0], few[1], few[2], few[3])); e != api.ErrPoly {
		t.Errorf("36 roots: %d", int(e))
	}
}

// The signs of noughts are those of the first place there, whichever element asks for it.
func TestP16_5NoughtsOfPlaces(t *testing.T) {
	for _, a := range noughts {
		for _, b := range noughts {
			for _, f := range []api.Flow{
				of(source(a, 1), source(b, 1)),
				of(source(a, 1), doublet(b, 1, 2), source(1, 1)),
				of(doublet(a, 1, 1), source(1, 1), doublet(b, 1i, 3)),
				of(source(1, 1), source(a, 1i), doublet(b, 1, 1), source(complex(1, imag(b)), 2)),
				of(corner(a, 1, 3), source(b, 1)), // a Corner's place is its own
			} {
				wantSteps(t, f)
			}
		}
	}
	one := []float64{0, minusNought}
	for _, x := range one {
		for _, y := range one {
			f, ok, e := flow.Fraction(of(source(complex(1, x), 1), source(complex(1, y), 1), source(complex(2, y), 1)))
			if !ok || e != api.OK || !sameLists(f.Bottom, ofSteps(list{complex(1, x), complex(2, y)})) {
				t.Errorf("places 1 with %v, %v: %v, %d", x, y, f, int(e))
			}
		}
	}
}
