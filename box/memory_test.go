package box_test

import (
	"testing"

	"eddy/api"
	"eddy/box"
)

const spare = 5

// roomy is l with spare room, in which something stands.
func roomy(l list) list {
	out := append(append(make(list, 0, len(l)+spare), l...), filled(spare, 7-7i)...)
	return out[:len(l):len(out)]
}

// untouched tells whether a roomy list is what it was made of.
func untouched(r, l list) bool {
	all := r[: len(l)+spare : len(l)+spare]
	for i, c := range all {
		if i < len(l) && !same(c, l[i]) || i >= len(l) && c != 7-7i {
			return false
		}
	}
	return true
}

// checkMemory asks twice: the list is as it was, and the answer too, whatever becomes of the list.
func checkMemory(t *testing.T, l list, b api.Box) {
	t.Helper()
	for i, does := range []func(list, api.Box) (api.Box, api.Errno){box.Poly, box.Slope} {
		r := roomy(l)
		first, e := does(r, b)
		second, f := does(r, b)
		if !untouched(r, l) || e != f || !sameBoxes(first, second) {
			t.Errorf("%d of %x: it is %x now; %x, %d, then %x, %d", i, l, r, first, int(e), second, int(f))
		}
	}
}

func TestP11_7OnlyRead(t *testing.T) {
	d := newDice()
	for range 5000 {
		checkMemory(t, d.polynomial(8, 5), d.plain())
		checkMemory(t, d.polynomial(8, 40), d.box())
		checkMemory(t, d.polynomial(8, 5), d.wild())
	}
	for _, l := range []list{{}, {1, 0}, {complex(none, 0), 1}, filled(66, 1), {0}, filled(65, 1)} {
		checkMemory(t, l, of(1, 2, 0, 0))
		checkMemory(t, l, of(2, 1, 0, 0))
		checkMemory(t, l, at(0x1p600))
	}
}

// The quarters are values: what becomes of one does not touch the others.
func TestP11_7Four(t *testing.T) {
	b := of(0, 2, 0, 4)
	l, _ := box.Four(b)
	for i := range l {
		l[i] = api.Box{Low: 99, High: 99}
	}
	wantFour(t, b, [4]api.Box{of(0, 1, 0, 2), of(1, 2, 0, 2), of(0, 1, 2, 4), of(1, 2, 2, 4)}, api.OK)
}
