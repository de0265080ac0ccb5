package path_test

import (
	"math"
	"testing"

	"eddy/api"
	"eddy/path"
)

type list = []complex128

const (
	least = 0x1p-1074
	most  = 0x1p40 // the greatest worth of a place's part
)

var (
	minusNought = math.Copysign(0, -1)
	infinite    = math.Inf(1)
	none        = math.NaN()
	beyond      = math.Nextafter(most, infinite)
	// no place has one of these as a part
	strange = []float64{none, infinite, -infinite, beyond, -beyond, math.MaxFloat64, -0x1p41}
)

// q is the chapter's square.
func q() list { return list{0, 2, 2 + 2i, 2i} }

func star() list { return list{3i, -2 - 3i, 3 + 1i, -3 + 1i, 2 - 3i} }

// diamond has ends at the levels of its middle.
func diamond() list { return list{2, 2i, -2, -2i} }

// comb has ends at the level of nought between its teeth, and a level side there.
func comb() list {
	return list{-8 - 4i, 8 - 4i, 8 + 4i, 6, 4 + 4i, 2, 0, -2 + 4i, -4, -6 + 2i, -8}
}

// long is a zigzag upward of so many places.
func long(n int) list {
	l := make(list, n)
	for i := range l {
		l[i] = complex(float64(i%2), float64(i))
	}
	return l
}

// again is a path gone along n times.
func again(l list, n int) list {
	var out list
	for range n {
		out = append(out, l...)
	}
	return out
}

// dice tells words, the same ones at each run.
type dice uint64

func newDice() *dice {
	d := dice(0x9e3779b97f4a7c15)
	return &d
}

func (d *dice) word() uint64 {
	x := *d
	x ^= x << 13
	x ^= x >> 7
	x ^= x << 17
	*d = x
	return uint64(x)
}

func (d *dice) below(n int) int { return int(d.word() % uint64(n)) }

// part is a float of either sign, from 2^low to below 2^high in worth.
func (d *dice) part(low, high int) float64 {
	sign := float64(int64(d.word()))
	x := math.Ldexp(1+float64(d.word()>>12)*0x1p-52, low+d.below(high-low))
	return math.Copysign(x, sign)
}

// real is a float that a place may have, great and small ones together.
func (d *dice) real() float64 {
	switch d.below(8) {
	case 0:
		return []float64{0, minusNought, least, -least, most, -most, 1, -1}[d.below(8)]
	case 1:
		return float64(d.below(9) - 4)
	case 2:
		return float64(d.below(9)-4) * least
	case 3:
		return d.part(-1022, 40)
	case 4:
		return d.part(30, 40)
	}
	return d.part(-3, 3)
}

func (d *dice) place() complex128 { return complex(d.real(), d.real()) }

// pathOf is one that may be, of n places: one that is like its neighbour is passed over.
func pathOf(n int, place func() complex128) list {
	l := list{place()}
	for len(l) < n {
		z := place()
		if z != l[len(l)-1] && (len(l) < n-1 || z != l[0]) {
			l = append(l, z)
		}
	}
	return l
}

// small is a place of whole parts, so few that places meet and lie on sides often.
func (d *dice) small() complex128 {
	return complex(float64(d.below(5)-2), float64(d.below(5)-2))
}

func sameFloats(a, b float64) bool {
	return math.IsNaN(a) && math.IsNaN(b) || math.Float64bits(a) == math.Float64bits(b)
}

func same(a, b complex128) bool {
	return sameFloats(real(a), real(b)) && sameFloats(imag(a), imag(b))
}

func sameLists(a, b list) bool {
	if len(a) != len(b) {
		return false
	}
	for i := range a {
		if !same(a[i], b[i]) {
			return false
		}
	}
	return true
}

func within(z complex128) bool { return math.Abs(real(z)) <= most && math.Abs(imag(z)) <= most }

// refusal is what the chapter says of paths that may not be.
func refusal(l list) api.Errno {
	if len(l) < 3 || len(l) > 4096 {
		return api.ErrMany
	}
	for _, z := range l {
		if !within(z) {
			return api.ErrReal
		}
	}
	last := l[len(l)-1]
	for _, z := range l {
		if real(z) == real(last) && imag(z) == imag(last) {
			return api.ErrPath
		}
		last = z
	}
	return api.OK
}

func wantCheck(t *testing.T, l list, ought api.Errno) {
	t.Helper()
	if e := path.Check(l); e != ought {
		t.Errorf("Check of %d places, %v: %d, not %d", len(l), l[:min(len(l), 9)], int(e), int(ought))
	}
}

func TestP12_1Counts(t *testing.T) {
	for n := range 3 {
		wantCheck(t, q()[:n], api.ErrMany)
		wantCheck(t, make(list, n), api.ErrMany)
	}
	wantCheck(t, nil, api.ErrMany)
	wantCheck(t, q()[:3], api.OK)
	wantCheck(t, list{0, 1, 2}, api.OK) // there and back along one line
	for _, n := range []int{4, 5, 4095, 4096} {
		wantCheck(t, long(n), api.OK)
		wantCheck(t, make(list, n), api.ErrPath)
	}
	wantCheck(t, long(4097), api.ErrMany)
	wantCheck(t, long(9000), api.ErrMany)
}

func TestP12_1Reals(t *testing.T) {
	for _, n := range []int{3, 4, 7, 4096} {
		for _, i := range []int{0, 1, n / 2, n - 1} {
			for _, x := range strange {
				l := long(n)
				l[i] = complex(x, imag(l[i]))
				wantCheck(t, l, api.ErrReal)
				l[i] = complex(0, x)
				wantCheck(t, l, api.ErrReal)
			}
		}
	}
	wantCheck(t, list{complex(most, most), complex(-most, -most), complex(most, -most)}, api.OK)
	wantCheck(t, list{complex(least, 0), complex(-least, 0), complex(0, least)}, api.OK)
}

func TestP12_1Sides(t *testing.T) {
	for _, n := range []int{3, 4, 7, 4096} {
		for i := range n {
			l := long(n)
			l[i] = l[(i+1)%n]
			wantCheck(t, l, api.ErrPath)
		}
	}
	noughts := list{0, complex(minusNought, 0), complex(0, minusNought), complex(minusNought, minusNought)}
	for _, a := range noughts {
		for _, b := range noughts {
			wantCheck(t, list{a, b, 1}, api.ErrPath)
			wantCheck(t, list{1, a, b}, api.ErrPath)
			wantCheck(t, list{b, 1, a}, api.ErrPath)
			wantCheck(t, list{a, 1, b, 1i}, api.OK)
		}
	}
	wantCheck(t, list{1, complex(1, minusNought), 2i}, api.ErrPath)
	wantCheck(t, list{1i, 3, complex(minusNought, 1)}, api.ErrPath)
	wantCheck(t, list{0, least, 0, complex(0, least)}, api.OK)
	wantCheck(t, list{1, complex(math.Nextafter(1, 2), 0), 1i}, api.OK)
	wantCheck(t, list{0, 1, 0, 1}, api.OK)
}

// Of several faults the list's length counts first, then a part, then a side.
func TestP12_1Order(t *testing.T) {
	bad := complex(none, 0)
	wantCheck(t, list{bad, bad}, api.ErrMany)
	wantCheck(t, append(make(list, 4096), bad), api.ErrMany)
	wantCheck(t, list{1, 1, bad}, api.ErrReal)
	wantCheck(t, list{bad, bad, bad}, api.ErrReal)
	wantCheck(t, list{1, 1, 2, 3, complex(0, beyond)}, api.ErrReal)
	wantCheck(t, list{complex(infinite, 0), complex(infinite, 0), 1}, api.ErrReal)
}

// wantRefused asks every call that is handed a path; z, the other argument, does not matter then.
func wantRefused(t *testing.T, l list, z complex128, ought api.Errno) {
	t.Helper()
	wantCheck(t, l, ought)
	wantOn(t, l, z, false, ought)
	wantRound(t, l, z, 0, ought)
	wantLength(t, l, 0, ought)
	wantArea(t, l, 0, ought)
	wantBack(t, l, nil, ought)
}

func TestP12_1EveryCall(t *testing.T) {
	for _, z := range []complex128{0, 1, 5i, complex(none, 0), complex(0, beyond)} {
		wantRefused(t, nil, z, api.ErrMany)
		wantRefused(t, q()[:2], z, api.ErrMany)
		wantRefused(t, long(4097), z, api.ErrMany)
		wantRefused(t, list{1, 1i, complex(0, infinite)}, z, api.ErrReal)
		wantRefused(t, list{1, 1, complex(beyond, 0)}, z, api.ErrReal)
		wantRefused(t, list{0, 1, 1}, z, api.ErrPath)
		wantRefused(t, list{0, 1, complex(0, minusNought)}, z, api.ErrPath)
	}
}

// Floats of any bits: what the words say, and no call panics.
func TestP12_1Wild(t *testing.T) {
	d := newDice()
	f := func() float64 {
		switch d.below(4) {
		case 0:
			return strange[d.below(len(strange))]
		case 1:
			return math.Float64frombits(d.word())
		}
		return d.real()
	}
	for range 20000 {
		l := make(list, d.below(6))
		for i := range l {
			l[i] = complex(d.real(), d.real())
			if d.below(8) == 0 {
				l[i] = complex(f(), f())
			}
		}
		z := complex(f(), f())
		switch e := refusal(l); {
		case e != api.OK:
			wantRefused(t, l, z, e)
		case !within(z):
			wantOn(t, l, z, false, api.ErrReal)
			wantRound(t, l, z, 0, api.ErrReal)
		default:
			wantAsExactly(t, l, z)
		}
	}
}
