package path_test

import (
	"math"
	"math/big"
	"slices"
	"testing"

	"eddy/api"
	"eddy/path"
)

// way leads from one place to another, in units of 2^-1074, of which all floats are whole numbers.
type way struct{ x, y *big.Int }

func units(x float64) *big.Int {
	f := new(big.Float).SetFloat64(x)
	n, _ := f.SetMantExp(f, 1074).Int(nil)
	return n
}

func between(a, b complex128) way {
	return way{
		new(big.Int).Sub(units(real(b)), units(real(a))),
		new(big.Int).Sub(units(imag(b)), units(imag(a))),
	}
}

func product(x, y *big.Int) *big.Int { return new(big.Int).Mul(x, y) }

func (a way) cross(b way) int { return product(a.x, b.y).Cmp(product(a.y, b.x)) }

// along is below nought, if both lead apart.
func (a way) along(b way) int {
	sum := product(a.x, b.x)
	return sum.Add(sum, product(a.y, b.y)).Sign()
}

// quarter is the one of four that a way leads to, each with the half line at its right.
func (a way) quarter() int {
	x, y := a.x.Sign(), a.y.Sign()
	switch {
	case x > 0 && y >= 0:
		return 0
	case x <= 0 && y > 0:
		return 1
	case x < 0 && y <= 0:
		return 2
	}
	return 3
}

// exactly tells by quarters how often a path goes round a place: not by what passes a half line, as the program does.
func exactly(l list, z complex128) (turns int, on bool) {
	last := between(z, l[len(l)-1])
	for _, a := range l {
		now := between(z, a)
		side := last.cross(now)
		if side == 0 && last.along(now) <= 0 {
			return 0, true
		}
		switch (now.quarter() - last.quarter() + 4) % 4 {
		case 1:
			turns++
		case 2:
			turns += 2 * side
		case 3:
			turns--
		}
		last = now
	}
	return turns / 4, false
}

func wantOn(t *testing.T, l list, z complex128, ought bool, oughtE api.Errno) {
	t.Helper()
	if on, e := path.On(l, z); on != ought || e != oughtE {
		t.Errorf("On(%x, %x): %v, %d, not %v, %d", l[:min(len(l), 9)], z, on, int(e), ought, int(oughtE))
	}
}

func wantRound(t *testing.T, l list, z complex128, ought int, oughtE api.Errno) {
	t.Helper()
	if n, e := path.Round(l, z); n != ought || e != oughtE {
		t.Errorf("Round(%x, %x): %d, %d, not %d, %d", l[:min(len(l), 9)], z, n, int(e), ought, int(oughtE))
	}
}

// wantTurns asks both calls of a place that does not lie on the path, wantOnIt of one that does.
func wantTurns(t *testing.T, l list, z complex128, ought int) {
	t.Helper()
	wantRound(t, l, z, ought, api.OK)
	wantOn(t, l, z, false, api.OK)
}

func wantOnIt(t *testing.T, l list, z complex128) {
	t.Helper()
	wantRound(t, l, z, 0, api.ErrOn)
	wantOn(t, l, z, true, api.OK)
}

// wantAsExactly tells whether the place lay on the path, too.
func wantAsExactly(t *testing.T, l list, z complex128) (turns int, on bool) {
	t.Helper()
	turns, on = exactly(l, z)
	if on {
		wantOnIt(t, l, z)
	} else {
		wantTurns(t, l, z, turns)
	}
	return turns, on
}

func TestP12_2Places(t *testing.T) {
	for _, x := range strange {
		for _, z := range []complex128{complex(x, 0), complex(1, x), complex(x, x)} {
			wantOn(t, q(), z, false, api.ErrReal)
			wantRound(t, q(), z, 0, api.ErrReal)
		}
	}
	wantTurns(t, q(), complex(most, -most), 0)
	corner := list{complex(-most, -most), complex(most, -most), complex(most, most)}
	wantOnIt(t, corner, complex(most, most))
	wantOnIt(t, corner, complex(-most/3, -most/3))
	wantTurns(t, corner, complex(most/3, math.Nextafter(most/3, 0)), 1)
	wantTurns(t, corner, complex(most/3, math.Nextafter(most/3, most)), 0)
}

func TestP12_2OnSidesAndEnds(t *testing.T) {
	for _, l := range []list{q(), star(), diamond(), comb()} {
		for i, a := range l {
			b := l[(i+1)%len(l)]
			wantOnIt(t, l, a)
			wantOnIt(t, l, complex(real(a)/2+real(b)/2, imag(a)/2+imag(b)/2))
			wantOnIt(t, l, complex(real(a)*0.75+real(b)*0.25, imag(a)*0.75+imag(b)*0.25))
		}
	}
	for _, z := range []complex128{complex(minusNought, 0), complex(0, minusNought), complex(minusNought, 1), complex(1, minusNought)} {
		wantOnIt(t, q(), z)
	}
	// On the straight line through a side, not on it.
	for _, z := range []complex128{-1, 3, 2 - 1i, 2 + 3i, -1 + 2i, 3 + 2i, -1i, 3i, -least, complex(0, -least), complex(2+0x1p-51, 2)} {
		wantTurns(t, q(), z, 0)
	}
	wantTurns(t, star(), 3+4i, 0)
	wantTurns(t, diamond(), 3-1i, 0)
	wantTurns(t, diamond(), -1+3i, 0)
}

// The least that floats tell beside a side, on either hand.
func TestP12_2Beside(t *testing.T) {
	for _, r := range []struct {
		z     complex128
		turns int
	}{
		{complex(1, least), 1}, {complex(1, -least), 0},
		{complex(least, 1), 1}, {complex(-least, 1), 0},
		{complex(math.Nextafter(2, 0), 1), 1}, {complex(math.Nextafter(2, 3), 1), 0},
		{complex(1, math.Nextafter(2, 0)), 1}, {complex(1, math.Nextafter(2, 3)), 0},
		{complex(least, least), 1}, {complex(-least, -least), 0}, {complex(-least, least), 0}, {complex(least, -least), 0},
	} {
		wantTurns(t, q(), r.z, r.turns)
	}
	flat := list{complex(-most, 0), complex(most, 0), complex(0, 2*least)}
	wantTurns(t, flat, complex(0, least), 1)
	wantTurns(t, flat, complex(math.Nextafter(most/2, 0), least), 1)
	wantOnIt(t, flat, complex(most/2, least))
	wantOnIt(t, flat, complex(-most/2, least))
	wantTurns(t, flat, complex(math.Nextafter(most/2, most), least), 0)
	wantTurns(t, flat, complex(math.Nextafter(-most/2, -most), least), 0)
	// 0.9 is more than thrice 0.3, as floats are worth.
	wantTurns(t, list{0, 0.3 + 0.9i, 1i}, 0.1+0.3i, 0)
	wantTurns(t, list{0, 1, 0.3 + 0.9i}, 0.1+0.3i, 1)
	wantOnIt(t, list{0, 0.2 + 0.6i, 1i}, 0.1+0.3i)
}

// The level of z is that of an end, of several, of a level side; each path the other way too.
func TestP12_2Levels(t *testing.T) {
	for _, r := range []struct {
		l     list
		z     complex128
		turns int
	}{
		{diamond(), 0, 1}, {diamond(), 1.5, 1}, {diamond(), -1.5, 1}, {diamond(), 3, 0}, {diamond(), -3, 0},
		{diamond(), 1 + 2i, 0}, {diamond(), -1 + 2i, 0}, {diamond(), 1 - 2i, 0}, {diamond(), -1 - 2i, 0},
		{q(), -1, 0}, {q(), 3, 0}, {q(), -1 + 2i, 0}, {q(), 3 + 2i, 0}, {q(), complex(-1, minusNought), 0},
		{comb(), -9, 0}, {comb(), -7, 1}, {comb(), -5, 1}, {comb(), -3, 1}, {comb(), 1 + 1i, 0}, {comb(), 1 - 1i, 1},
		{comb(), -0.5, 1}, {comb(), 2.5, 1}, {comb(), 5, 1}, {comb(), 7, 1}, {comb(), 9, 0},
		{comb(), -9 - 4i, 0}, {comb(), 9 - 4i, 0}, {comb(), -9 + 4i, 0}, {comb(), 9 + 4i, 0}, {comb(), 1 + 4i, 0}, {comb(), 6 + 4i, 0}, {comb(), -5 + 2i, 0}, {comb(), -1.5 + 2i, 1},
		{star(), -1 - 3i, 0}, {star(), -5 - 3i, 0}, {star(), 5 - 3i, 0}, {star(), 5 + 1i, 0}, {star(), -5 + 1i, 0}, {star(), 1 + 3i, 0},
	} {
		wantTurns(t, r.l, r.z, r.turns)
		wantTurns(t, backward(r.l), r.z, -r.turns)
	}
}

// backward turns a list round: the path goes the other way.
func backward(l list) list {
	out := append(list{}, l...)
	slices.Reverse(out)
	return out
}

func TestP12_2MoreThanOnce(t *testing.T) {
	wantTurns(t, star(), 0, 2)
	wantTurns(t, star(), 2i, 1)
	wantTurns(t, star(), 1+2i, 0)
	for _, n := range []int{2, 3, 1000, 1024} {
		wantTurns(t, again(q(), n), 1+1i, n)
		wantTurns(t, again(backward(q()), n), 1+1i, -n)
		wantTurns(t, again(q(), n), 3+1i, 0)
		wantOnIt(t, again(q(), n), 2+1i)
	}
	// Twice to the left and once to the right; and two rounds beside each other, one each way.
	wantTurns(t, append(append(again(q(), 2), 0, 2i), 2+2i, 2), 1+1i, 1)
	eight := list{0, 2, 2 + 2i, 0, -2, -2 - 2i}
	wantTurns(t, eight, 1.5+1i, 1)
	wantTurns(t, eight, -1.5-1i, 1)
	eight = list{0, 2, 2 + 2i, 0, -2 - 2i, -2}
	wantTurns(t, eight, 1.5+1i, 1)
	wantTurns(t, eight, -1.5-1i, -1)
	wantOnIt(t, eight, 0)
}

// Places of few whole parts lie on sides, at ends' levels, in line with others; those between them do not.
func TestP12_2Small(t *testing.T) {
	d := newDice()
	seen := map[int]int{}
	ons := 0
	for range 2500 {
		l := pathOf(3+d.below(9), d.small)
		for i := range 49 {
			z := complex(float64(i%7-3), float64(i/7-3))
			if i%3 == 0 {
				z = complex(real(z)/2, imag(z)/4)
			}
			turns, on := wantAsExactly(t, l, z)
			if on {
				ons++
			} else {
				seen[turns]++
			}
		}
	}
	for turns := -2; turns <= 2; turns++ {
		if seen[turns] < 100 {
			t.Errorf("%d times round: only %d", turns, seen[turns])
		}
	}
	if ons < 10000 {
		t.Errorf("only %d on paths", ons)
	}
}

// near is a float not far from x, in steps from one float to the next.
func (d *dice) near(x float64) float64 {
	toward := []float64{-most, most}[d.below(2)]
	for range d.below(3) {
		x = math.Nextafter(x, toward)
	}
	return x
}

// Places next to sides, of great and small parts together.
func TestP12_2Near(t *testing.T) {
	d := newDice()
	ons := 0
	for range 20000 {
		l := pathOf(3+d.below(5), d.place)
		i := d.below(len(l))
		a, b := l[i], l[(i+1)%len(l)]
		k := []float64{0, 1, 0.5, 0.25, 0.375, 1.5}[d.below(6)]
		x := real(a) + k*(real(b)-real(a))
		y := imag(a) + k*(imag(b)-imag(a))
		z := complex(d.near(x), d.near(y))
		if !within(z) {
			continue
		}
		if _, on := wantAsExactly(t, l, z); on {
			ons++
		}
		wantAsExactly(t, l, complex(d.real(), imag(z)))
	}
	if ons < 500 {
		t.Errorf("only %d on paths", ons)
	}
}

func TestP12_2Long(t *testing.T) {
	d := newDice()
	for _, n := range []int{4095, 4096} {
		l := pathOf(n, d.place)
		for range 3 {
			wantAsExactly(t, l, d.place())
		}
		wantOnIt(t, l, l[n-1])
		wantTurns(t, long(n), complex(0.5, 100.25), 0)
		zigzag := append(long(n-1), -1)
		wantAsExactly(t, zigzag, complex(-0.25, 3))
	}
}
