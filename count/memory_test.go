package count_test

import (
	"testing"

	"eddy/api"
	"eddy/count"
)

const spare = 5

// roomy is l with spare room, in which something stands.
func roomy(l list) list {
	out := append(append(make(list, 0, len(l)+spare), l...), filled(spare, 7-7i)...)
	return out[:len(l)]
}

// untouched tells whether a roomy list is what it was made of.
func untouched(r, l list) bool {
	for i, c := range r[:len(l)+spare] {
		if i < len(l) && !same(c, l[i]) || i >= len(l) && c != 7-7i {
			return false
		}
	}
	return true
}

// checkRead asks every call.
func checkRead(t *testing.T, l, other list, b api.Box, depth int) {
	t.Helper()
	r, s := roomy(l), roomy(other)
	count.Zeros(r, b, depth)
	count.Both(api.Fraction{Top: r, Bottom: s}, b, depth)
	count.Find(r, b, 0.5, depth)
	count.Round(r, s, depth)
	count.Round(s, r, depth)
	if !untouched(r, l) || !untouched(s, other) {
		t.Errorf("%x, %x are %x, %x now", l, other, r[:len(l)+spare], s[:len(other)+spare])
	}
}

func TestP13_5OnlyRead(t *testing.T) {
	d := newDice()
	for range 300 {
		l, depth := d.wild()
		other := d.polynomial(6, func() complex128 { return d.whole(3) })
		checkRead(t, l, other, square(float64(1+d.below(3))), depth)
	}
	for _, l := range badLists() {
		checkRead(t, l, list{1, 2, 3}, square(2), 8)
		checkRead(t, l, list{1, 2, complex(none, 0)}, of(1, 0, 0, 1), -1)
	}
	for _, l := range goodLists() {
		checkRead(t, l, list{1, 2, 3}, square(2), 8)
		checkRead(t, l, circling(points), square(2), 1)
		checkRead(t, list{-2, 1}, l, square(2), 25)
	}
}

// Spoilt answers show in no later one, nor do the answer's own lists share anything with the spare room of one another.
func TestP13_5NewMemory(t *testing.T) {
	l := with(1, 1+1i, 1+1i, -1+1i, 1-1i)
	r := roomy(l)
	first, zeros, _ := count.Find(r, square(2), 2, 12)
	ought := append([]api.Box{}, first...)
	oughtZeros := append([]int{}, zeros...)
	if len(ought) != 3 {
		t.Fatalf("%x", ought)
	}
	second, others, _ := count.Find(r, square(2), 2, 12)
	for i := range first[:cap(first)] {
		first[:cap(first)][i] = square(9)
	}
	for i := range zeros[:cap(zeros)] {
		zeros[:cap(zeros)][i] = 99
	}
	if !untouched(r, l) || !sameBoxes(second, ought) || !sameCounts(others, oughtZeros) {
		t.Error("a spoilt answer shows")
	}
	for i := range r[:cap(r)] {
		r[:cap(r)][i] = 99
	}
	if !sameBoxes(second, ought) || !sameCounts(others, oughtZeros) {
		t.Error("a spoilt polynomial shows")
	}
	wantFind(t, l, square(2), 2, 12, ought, oughtZeros, api.OK)
}

// Nothing is kept from call to call: neither how many pieces were looked at, nor that a walk was not sure.
func TestP13_5NothingKept(t *testing.T) {
	full := fullWalks()
	for range 3 {
		wantZeros(t, full[0].l, full[0].b, deepest, 2, api.OK)
		wantZeros(t, full[2].l, full[2].b, deepest, 0, api.ErrUnsure)
		wantBoth(t, full[0].l, full[0].l, full[0].b, deepest, 0, api.OK)
		wantRound(t, full[0].l, corners(full[0].b), deepest, 2, full[0].pieces, api.OK)
		wantZeros(t, list{-2, 1}, square(2), deepest, 0, api.ErrUnsure)
		wantFind(t, full[0].l, full[0].b, 9, deepest, []api.Box{full[0].b}, []int{2}, api.OK)
	}
}
