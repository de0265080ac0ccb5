package path_test

import (
	"testing"

	"eddy/api"
	"eddy/path"
	"eddy/roots"
)

func wantFloat(t *testing.T, what string, l list, ought float64, oughtE api.Errno, got float64, e api.Errno) {
	t.Helper()
	if e != oughtE || !sameFloats(got, ought) {
		t.Errorf("%s(%x): %x, %d, not %x, %d", what, l[:min(len(l), 9)], got, int(e), ought, int(oughtE))
	}
}

func wantLength(t *testing.T, l list, ought float64, oughtE api.Errno) {
	t.Helper()
	got, e := path.Length(l)
	wantFloat(t, "Length", l, ought, oughtE, got, e)
}

func wantArea(t *testing.T, l list, ought float64, oughtE api.Errno) {
	t.Helper()
	got, e := path.Area(l)
	wantFloat(t, "Area", l, ought, oughtE, got, e)
}

func wantBack(t *testing.T, l, ought list, oughtE api.Errno) {
	t.Helper()
	got, e := path.Back(l)
	wantList(t, "Back", ought, oughtE, got, e)
}

// leads is what leads from a to b.
func leads(a, b complex128) complex128 {
	return complex(minus(real(b), real(a)), minus(imag(b), imag(a)))
}

// The chapter's words, one operation a call.

func lengthSteps(l list) float64 {
	sum := roots.Length(leads(l[0], l[1]))
	for i := 1; i < len(l)-1; i++ {
		sum = plus(sum, roots.Length(leads(l[i], l[i+1])))
	}
	return plus(sum, roots.Length(leads(l[len(l)-1], l[0])))
}

func crossSteps(a, b complex128) float64 {
	return minus(times(real(a), imag(b)), times(imag(a), real(b)))
}

func areaSteps(l list) float64 {
	sum := crossSteps(leads(l[0], l[1]), leads(l[0], l[2]))
	for i := 2; i <= len(l)-2; i++ {
		sum = plus(sum, crossSteps(leads(l[0], l[i]), leads(l[0], l[i+1])))
	}
	return times(sum, 0.5)
}

func TestP12_5Steps(t *testing.T) {
	d := newDice()
	plain := func() complex128 { return complex(d.part(-3, 3), d.part(-3, 3)) }
	tiny := func() complex128 { return complex(d.part(-1070, -1000), d.part(-540, -530)) }
	check := func(l list) {
		wantLength(t, l, lengthSteps(l), api.OK)
		wantArea(t, l, areaSteps(l), api.OK)
	}
	for range 20000 {
		n := 3 + d.below(9)
		check(pathOf(n, plain))
		check(pathOf(n, d.place))
		check(pathOf(n, d.small))
		check(pathOf(n, tiny))
	}
	for _, n := range []int{100, 4095, 4096} {
		check(pathOf(n, plain))
		check(pathOf(n, d.place))
		check(long(n))
	}
}

func TestP12_5Length(t *testing.T) {
	wantLength(t, q(), 8, api.OK)
	wantLength(t, list{0, 3 + 4i, 0, 4i}, 18, api.OK)
	wantLength(t, list{0, 1, 2}, 4, api.OK)
	wantLength(t, list{0, least, complex(least, least)}, 3*least, api.OK)
	// From the left: the great one first swallows the small ones, last it does not.
	const small = 0x1p-13
	wantLength(t, list{most, 0, small, 0, small}, 0x1p41, api.OK)
	wantLength(t, list{0, small, 0, small, most}, 0x1p41+0x1p-12, api.OK)
	// The last side counts as the last one.
	wantLength(t, list{small, 0, most, 2 * small}, 0x1p41, api.OK)
	// No difference or square passes all floats.
	far := complex(most, most)
	wantLength(t, list{far, -far, 0}, lengthSteps(list{far, -far, 0}), api.OK)
}

func TestP12_5Area(t *testing.T) {
	wantArea(t, q(), 4, api.OK)
	wantArea(t, q()[:3], 2, api.OK)
	wantArea(t, list{0, 1i, 1}, -0.5, api.OK)
	wantArea(t, list{1, 2, 3, 5}, 0, api.OK)
	wantArea(t, again(q(), 3), 12, api.OK)
	// A bow tie: what goes to the right is taken away.
	wantArea(t, list{0, 2 + 2i, 2, 2i}, 0, api.OK)
	// Noughts' signs as the crosses have them: -1 * 0 less 0 * 2.
	wantArea(t, list{0, -1, 2}, minusNought, api.OK)
	wantArea(t, list{0, 2, -1}, 0, api.OK)
	wantArea(t, list{0, -1, 2, -1}, 0, api.OK)
	// From the left: small triangles ahead of the great one come together to what it does not swallow.
	const g = 0x1p27
	wantArea(t, list{0, 1.5, 1i, -1.5, -g * 1i, g}, 0x1p53+0.75*g+2, api.OK)
	wantArea(t, list{0, g, g * 1i, -1.5, -1i, 1.5}, 0x1p53+0.75*g, api.OK)
	// Both products are rounded ahead of the difference: exactly it would be 2^-105.
	x := 1 + 0x1p-52
	wantArea(t, list{0, complex(x, 1+0x1p-51), complex(1, x)}, 0, api.OK)
}

func TestP12_5Back(t *testing.T) {
	wantBack(t, q(), list{0, 2i, 2 + 2i, 2}, api.OK)
	wantBack(t, q()[:3], list{0, 2 + 2i, 2}, api.OK)
	m := complex(minusNought, minusNought)
	wantBack(t, list{m, 1, complex(0, minusNought), 2}, list{m, 2, complex(0, minusNought), 1}, api.OK)
	d := newDice()
	for _, n := range []int{3, 4, 5, 12, 500, 4096} {
		l := pathOf(n, d.place)
		ought := list{l[0]}
		for i := n - 1; i > 0; i-- {
			ought = append(ought, l[i])
		}
		wantBack(t, l, ought, api.OK)
		wantBack(t, ought, l, api.OK)
	}
}
