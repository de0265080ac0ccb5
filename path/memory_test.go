package path_test

import (
	"testing"

	"eddy/api"
	"eddy/path"
)

const spare = 5

// roomy is l with spare room, in which something stands.
func roomy(l list) list {
	out := append(make(list, 0, len(l)+spare), l...)
	for range spare {
		out = append(out, 7-7i)
	}
	return out[:len(l)]
}

// untouched tells whether a roomy list is what it was made of.
func untouched(r, l list) bool {
	for i, c := range r[:len(l)+spare] {
		if i < len(l) && !same(c, l[i]) || i >= len(l) && c != 7-7i {
			return false
		}
	}
	return true
}

func spoil(l list) {
	for i := range l[:cap(l)] {
		l[:cap(l)][i] = 99 - 99i
	}
}

// checkRead asks every call that is handed a path.
func checkRead(t *testing.T, l list, z complex128) {
	t.Helper()
	r := roomy(l)
	path.Check(r)
	path.On(r, z)
	path.Round(r, z)
	path.Length(r)
	path.Area(r)
	path.Back(r)
	if !untouched(r, l) {
		t.Errorf("%x is %x now", l, r[:len(l)+spare])
	}
}

func TestP12_6OnlyRead(t *testing.T) {
	d := newDice()
	for range 2000 {
		checkRead(t, pathOf(3+d.below(6), d.place), d.place())
		checkRead(t, pathOf(3+d.below(6), d.small), d.small())
	}
	for _, l := range []list{{}, {1}, {1, 2}, {1, 1, 2}, {complex(none, 0), 1, 2}, long(4096), long(4097)} {
		checkRead(t, l, 1)
		checkRead(t, l, complex(none, none))
	}
}

// Neither what is answered nor what was handed in changes with the other one, nor with an earlier answer.
func TestP12_6Back(t *testing.T) {
	for _, l := range []list{q(), q()[:3], star(), long(4096)} {
		r := roomy(l)
		first, _ := path.Back(r)
		ought := append(list{}, first...)
		second, _ := path.Back(r)
		spoil(first)
		if !untouched(r, l) || !sameLists(second, ought) {
			t.Errorf("Back(%x): a spoilt answer shows", l[:3])
		}
		spoil(r)
		wantList(t, "Back", ought, api.OK, second, api.OK)
	}
}

func TestP12_6Made(t *testing.T) {
	b, c := of(0, 2, 0, 2), api.Circle{Centre: 1, Radius: 2}
	boxed, _ := path.Box(b)
	round, _ := path.Circle(c, 8)
	spoil(boxed)
	spoil(round)
	wantBox(t, b, q(), api.OK)
	wantCircle(t, c, 8, circleSteps(c, 8), api.OK)
}
