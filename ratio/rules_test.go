package ratio_test

import (
	"math"
	"testing"

	"eddy/api"
	"eddy/poly"
	"eddy/ratio"
)

// exact is a complex number of whole parts, none of which comes near to the ends of int64 here.
type exact struct{ re, im int64 }

func exactly(a complex128) exact { return exact{int64(real(a)), int64(imag(a))} }

func (a exact) plus(b exact) exact  { return exact{a.re + b.re, a.im + b.im} }
func (a exact) minus(b exact) exact { return exact{a.re - b.re, a.im - b.im} }
func (a exact) times(b exact) exact {
	return exact{a.re*b.re - a.im*b.im, a.re*b.im + a.im*b.re}
}

// exactValue and exactSlope are sums of powers, not steps from the last coefficient on.
func exactValue(l list, z complex128) exact {
	sum, p := exact{}, exact{1, 0}
	for _, c := range l {
		sum = sum.plus(exactly(c).times(p))
		p = p.times(exactly(z))
	}
	return sum
}

func exactSlope(l list, z complex128) exact {
	sum, p := exact{}, exact{1, 0}
	for i, c := range l[1:] {
		sum = sum.plus(exactly(c).times(p).times(exact{int64(i + 1), 0}))
		p = p.times(exactly(z))
	}
	return sum
}

// wantValues holds the values of an answered fraction against exact ones.
func wantValues(t *testing.T, what string, top, bottom exact, z complex128, got fraction, e api.Errno) {
	t.Helper()
	if e != api.OK {
		t.Fatalf("%s: %d", what, int(e))
	}
	a, e := poly.At(got.Top, z)
	b, f := poly.At(got.Bottom, z)
	if e != api.OK || f != api.OK || exactly(a) != top || exactly(b) != bottom {
		t.Errorf("%s: at %v %v over %v, not %v over %v", what, z, a, b, top, bottom)
	}
}

func checkExact(t *testing.T, f, g fraction, z complex128) {
	t.Helper()
	a, b, c, d := exactValue(f.Top, z), exactValue(f.Bottom, z), exactValue(g.Top, z), exactValue(g.Bottom, z)
	got, e := ratio.Add(f, g)
	wantValues(t, "Add", a.times(d).plus(c.times(b)), b.times(d), z, got, e)
	got, e = ratio.Mul(f, g)
	wantValues(t, "Mul", a.times(c), b.times(d), z, got, e)
	got, e = ratio.Slope(f)
	wantValues(t, "Slope", exactSlope(f.Top, z).times(b).minus(a.times(exactSlope(f.Bottom, z))), b.times(b), z, got, e)
}

func TestP10_8Exact(t *testing.T) {
	d := newDice()
	for range 20000 {
		checkExact(t, d.wholes(), d.wholes(), d.whole())
	}
	corners := list{8 + 8i, -8 + 8i, 8 - 8i, -8 - 8i, 8, -8i}
	for _, a := range corners {
		for _, b := range corners {
			for _, z := range corners {
				checkExact(t, of(filled(4, a), filled(4, b)), of(filled(4, b), filled(4, a)), z)
				checkExact(t, of(filled(4, a), filled(4, a)), of(filled(4, b), filled(4, b)), z)
				checkExact(t, of(list{a, b, a, b}, list{b, b, a, a}), of(list{a}, list{b}), z)
			}
		}
	}
}

func TestP10_8TurnedTwice(t *testing.T) {
	d := newDice()
	turned := 0
	for range 5000 {
		f := d.fraction()
		once, e := ratio.Turned(f)
		if isNoughtPolynomial(f.Top) {
			continue
		}
		if e != api.OK {
			t.Fatalf("Turned(%x): %d", f, int(e))
		}
		wantTurned(t, once, f, api.OK)
		turned++
	}
	if turned < 4000 {
		t.Errorf("only %d", turned)
	}
}

// unlikePoles are so many, at unlike places.
func unlikePoles(d *dice, n int) []pole {
	var l []pole
	seen := map[exact]int{}
	for len(l) < n {
		p := pole{At: d.whole(), Residue: d.whole()}
		if seen[exactly(p.At)]++; seen[exactly(p.At)] == 1 {
			l = append(l, p)
		}
	}
	return l
}

func checkBack(t *testing.T, l []pole) {
	t.Helper()
	f, e := ratio.Of(l, nil)
	if e != api.OK || len(f.Bottom) != len(l)+1 || len(f.Top) > max(len(l), 1) {
		t.Fatalf("Of(%v): %v, %d", l, f, int(e))
	}
	at := list{}
	for _, p := range l {
		at = append(at, p.At)
	}
	back, e := ratio.Poles(f, at)
	if e != api.OK || len(back) != len(l) {
		t.Fatalf("Poles of Of(%v): %v, %d", l, back, int(e))
	}
	for k, p := range l {
		off := math.Hypot(real(back[k].Residue)-real(p.Residue), imag(back[k].Residue)-imag(p.Residue))
		if !same(back[k].At, p.At) || !(off <= 0x1p-40) {
			t.Errorf("Poles of Of(%v): number %d is %v", l, k, back[k])
		}
	}
}

func TestP10_8ThereAndBack(t *testing.T) {
	d := newDice()
	for i := range 20000 {
		checkBack(t, unlikePoles(d, i%4))
	}
	for _, r := range []complex128{8 + 8i, -8 + 8i, 8, 0} {
		checkBack(t, []pole{{At: 8 + 8i, Residue: r}, {At: -8 - 8i, Residue: r}, {At: 8 - 8i, Residue: -r}})
		checkBack(t, []pole{{At: 8 + 8i, Residue: r}, {At: 8 + 7i, Residue: r}, {At: 7 + 8i, Residue: -r}})
	}
}
