package path_test

import (
	"math"
	"math/big"
	"testing"

	"eddy/api"
	"eddy/box"
	"eddy/path"
)

// some is a path of one kind or another, with places that may lie on it.
func some(d *dice) (l list, z []complex128) {
	switch d.below(3) {
	case 0:
		l = pathOf(3+d.below(6), d.place)
		a, b := l[0], l[1]
		return l, []complex128{d.place(), l[d.below(len(l))], complex(real(a)/2+real(b)/2, imag(a)/2+imag(b)/2), complex(real(a), imag(b))}
	case 1:
		l = pathOf(3+d.below(12), d.small)
		return l, []complex128{d.small(), d.small(), d.small() / 2, d.small() / 4}
	}
	plain := func() complex128 { return complex(d.part(-3, 3), d.part(-3, 3)) }
	l = pathOf(3+d.below(20), plain)
	return l, []complex128{plain(), plain(), 0, complex(1, imag(l[1]))}
}

// begun is the path begun at its place with the number i.
func begun(l list, i int) list { return append(append(list{}, l[i:]...), l[:i]...) }

func TestP12_7BegunAndBack(t *testing.T) {
	d := newDice()
	ons := 0
	for range 6000 {
		l, places := some(d)
		back, e := path.Back(l)
		if e != api.OK {
			t.Fatal(int(e))
		}
		for _, z := range places {
			n, e := path.Round(l, z)
			if e == api.ErrOn {
				ons++
			}
			wantRound(t, begun(l, d.below(len(l))), z, n, e)
			wantRound(t, begun(l, len(l)-1), z, n, e)
			wantRound(t, back, z, -n, e)
			wantOn(t, l, z, e == api.ErrOn, api.OK)
			if 2*max(n, -n) > len(l)-1 {
				t.Errorf("%x goes round %x %d times", l, z, n)
			}
		}
	}
	if ons < 2000 {
		t.Errorf("only %d on paths", ons)
	}
}

func TestP12_7Cut(t *testing.T) {
	d := newDice()
	told := 0
	for range 20000 {
		l, places := some(d)
		i, j := d.below(len(l)), d.below(len(l))
		i, j = min(i, j), max(i, j)
		if j-i < 2 || j-i > len(l)-2 {
			continue
		}
		one := append(list{}, l[i:j+1]...)
		other := append(append(list{}, l[j:]...), l[:i+1]...)
		for _, z := range places {
			n, e := path.Round(l, z)
			a, f := path.Round(one, z)
			b, g := path.Round(other, z)
			if e != api.OK || f != api.OK || g != api.OK {
				continue
			}
			told++
			if a+b != n {
				t.Errorf("%x, cut at %d and %d: %d, %d, not %d of %x", l, i, j, a, b, n, z)
			}
		}
	}
	if told < 10000 {
		t.Errorf("only %d", told)
	}
}

func isInside(b api.Box, z complex128) bool {
	return real(b.Low) < real(z) && real(z) < real(b.High) && imag(b.Low) < imag(z) && imag(z) < imag(b.High)
}

func TestP12_7Boxes(t *testing.T) {
	d := newDice()
	seen := [3]int{}
	for i := range 10000 {
		place := d.place
		if i%2 == 0 {
			place = d.small
		}
		b, _ := box.Make(place(), place())
		l, e := path.Box(b)
		if e != api.OK {
			continue
		}
		middle, _ := box.Middle(b)
		for _, z := range []complex128{middle, place(), b.Low, complex(real(middle), imag(b.High)), complex(d.near(real(b.Low)), d.near(imag(middle))), complex(real(b.High), d.real())} {
			switch {
			case !within(z):
			case isInside(b, z):
				seen[0]++
				wantTurns(t, l, z, 1)
			case box.Has(b, z):
				seen[1]++
				wantOnIt(t, l, z)
			default:
				seen[2]++
				wantTurns(t, l, z, 0)
			}
		}
	}
	for i, n := range seen {
		if n < 3000 {
			t.Errorf("%d: only %d", i, n)
		}
	}
}

// As often as a path of so many places can go round: each side leads on by nearly half a turn.
func TestP12_7AtMost(t *testing.T) {
	for _, n := range []int{3, 5, 7, 8, 101, 102, 4095, 4096} {
		turns := (n - 1) / 2
		l, e := path.Circle(api.Circle{Radius: 1000}, n)
		if e != api.OK {
			t.Fatal(int(e))
		}
		jumps := make(list, n)
		for i := range jumps {
			jumps[i] = l[i*turns%n]
		}
		wantTurns(t, jumps, 0, turns)
		wantTurns(t, backward(jumps), 0, -turns)
	}
}

func TestP12_8Side(t *testing.T) {
	d := newDice()
	for i := range 40000 {
		place := d.place
		if i%4 == 0 {
			place = d.small
		}
		a, b, z := place(), place(), place()
		s, e := path.Side(a, b, z)
		if e != api.OK {
			t.Fatal(int(e))
		}
		wantSide(t, b, z, a, s, api.OK)
		wantSide(t, z, a, b, s, api.OK)
		wantSide(t, b, a, z, -s, api.OK)
		wantSide(t, a, z, b, -s, api.OK)
		wantSide(t, z, b, a, -s, api.OK)
	}
}

// trueArea is in halves: parts up to 2^20 and so few places pass no int.
func trueArea(l list) float64 {
	twice := 0
	for i, a := range l {
		b := l[(i+1)%len(l)]
		twice += int(real(a))*int(imag(b)) - int(imag(a))*int(real(b))
	}
	return float64(twice) / 2
}

func TestP12_8Area(t *testing.T) {
	d := newDice()
	far := func() float64 { return float64(d.below(1<<21+1) - 1<<20) }
	edge := func() float64 { return float64(d.below(3)-1) * 0x1p20 }
	kinds := []func() complex128{
		d.small,
		func() complex128 { return complex(far(), far()) },
		func() complex128 { return complex(edge(), edge()) },
		func() complex128 { return complex(far(), edge()) },
	}
	for i := range 4000 {
		n := []int{3, 4, 10, 100, 499, 500}[d.below(6)]
		l := pathOf(n, kinds[i%4])
		area, e := path.Area(l)
		back, f := path.Back(l)
		turned, g := path.Area(back)
		if e != api.OK || f != api.OK || g != api.OK || area != trueArea(l) || turned != -area {
			t.Errorf("Area of %d places: %v, not %v; back %v; %d, %d, %d", n, area, trueArea(l), turned, int(e), int(f), int(g))
		}
	}
}

// The greatest sum that the rule lets in: 500 places, each triangle as great as it can be.
func TestP12_8GreatestArea(t *testing.T) {
	m := 0x1p20
	l := list{complex(-m, -m)}
	for i := range 499 {
		l = append(l, []complex128{complex(m, -m), complex(m, m), complex(-m, m), complex(1-m, m)}[i%4])
	}
	for _, l := range []list{l, append(again(list{complex(-m, -m), complex(m, -m), complex(m, m), complex(-m, m)}, 124), complex(-m, -m), complex(m, -m+1), complex(m-1, m))} {
		back, _ := path.Back(l)
		wantArea(t, l, trueArea(l), api.OK)
		wantArea(t, back, -trueArea(l), api.OK)
	}
}

func TestP12_8CirclesGoRoundOnce(t *testing.T) {
	check := func(c api.Circle, n int) {
		l, e := path.Circle(c, n)
		if e != api.OK {
			t.Fatalf("Circle(%v, %d): %d", c, n, int(e))
		}
		wantTurns(t, l, c.Centre, 1)
	}
	m := 0x1p20
	for _, centre := range []complex128{0, complex(m, m), complex(-m, m), complex(m, -m), complex(-m, 0), complex(least, -m), 1} {
		for _, r := range []float64{0x1p-10, 1, m, math.Nextafter(0x1p-10, 1)} {
			for _, n := range []int{3, 4, 5, 6, 8, 17, 1024, 4095, 4096} {
				check(api.Circle{Centre: centre, Radius: r}, n)
			}
		}
	}
	d := newDice()
	for range 2000 {
		check(api.Circle{Centre: complex(d.part(-20, 20), d.part(-30, 20)), Radius: math.Abs(d.part(-10, 20))}, 3+d.below(100))
	}
}

// wantNear asks exactly whether z is not farther from the circle about 0 than 2^-44 of r: its square lies between two others.
func wantNear(t *testing.T, z complex128, r float64) {
	t.Helper()
	square := func(x *big.Rat) *big.Rat { return new(big.Rat).Mul(x, x) }
	rat := func(x float64) *big.Rat { return new(big.Rat).SetFloat64(x) }
	length := new(big.Rat).Add(square(rat(real(z))), square(rat(imag(z))))
	least := square(new(big.Rat).Mul(rat(r), rat(1-0x1p-44)))
	greatest := square(new(big.Rat).Mul(rat(r), rat(1+0x1p-44)))
	if length.Cmp(least) < 0 || length.Cmp(greatest) > 0 {
		t.Errorf("%x is not on the circle of the radius %x", z, r)
	}
}

func TestP12_8CirclesAreRound(t *testing.T) {
	d := newDice()
	check := func(r float64, n int) {
		l, e := path.Circle(api.Circle{Radius: r}, n)
		if e != api.OK || len(l) != n {
			t.Fatalf("Circle(%x, %d): %d places, %d", r, n, len(l), int(e))
		}
		for _, z := range l {
			wantNear(t, z, r)
		}
	}
	for _, r := range []float64{0x1p-10, 0x1p20, 1, 0.1} {
		for _, n := range []int{3, 4, 360, 4096} {
			check(r, n)
		}
	}
	for range 500 {
		check(math.Abs(d.part(-10, 20)), 3+d.below(40))
	}
}
