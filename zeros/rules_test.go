package zeros_test

import (
	"math"
	"testing"

	"eddy/api"
	"eddy/poly"
	"eddy/zeros"
)

func TestP9_9MoreRounds(t *testing.T) {
	d := newDice()
	told := 0
	for i := range 300 {
		l := d.polynomial(8, 1+i%5)
		if l[len(l)-1] == 0 {
			continue
		}
		z, n, e := zeros.All(l, 300)
		if e != api.OK {
			continue
		}
		told++
		if len(z) != len(l)-1 || n > 300 || n < 1 && len(l) > 1 {
			t.Errorf("All(%x): %d zeros in %d rounds", l, len(z), n)
		}
		for _, more := range []int{300, 301, 1000, maxSteps, max(n, 1), n + 1} {
			wantAll(t, l, more, z, n, api.OK)
		}
		for _, fewer := range []int{n - 1, n - 2, n / 2, 1} {
			if fewer >= 1 && fewer < n {
				wantAll(t, l, fewer, nil, 0, api.ErrSteps)
			}
		}
	}
	if told < 250 {
		t.Errorf("only %d are told", told)
	}
}

// What All tells of polynomials with zeros apart are the zeros, in a row.
func TestP9_9AsManyZeros(t *testing.T) {
	d := newDice()
	told := 0
	for range 500 {
		known := list{}
		for len(known) < 1+d.below(4) {
			if z := d.whole(5); len(known) == 0 || isApart(known, z) {
				known = append(known, z)
			}
		}
		l, _ := poly.Of(known)
		z, _, e := zeros.All(l, 200)
		if e != api.OK {
			continue
		}
		told++
		if len(z) != len(known) {
			t.Fatalf("All(%v): %v", l, z)
		}
		for i := range z {
			if _, far := nearest(z, known[i]); far > 0x1p-30 {
				t.Errorf("All(%v): %v, without %v", l, z, known[i])
			}
			if i > 0 && !isAhead(z[i-1], z[i]) {
				t.Errorf("All(%v): %v are in no row", l, z)
			}
		}
	}
	if told < 300 {
		t.Errorf("only %d are told", told)
	}
}

func isApart(l list, z complex128) bool {
	_, far := nearest(l, z)
	return far >= 1
}

func TestP9_9PolishInPieces(t *testing.T) {
	d := newDice()
	for n := range 4000 {
		l, z := d.any(), d.number(1+n%20)
		i, k := d.below(12), d.below(12)
		first, e := zeros.Polish(l, z, i)
		if e != api.OK {
			t.Fatal(int(e))
		}
		second, e := zeros.Polish(l, first, k)
		if e != api.OK {
			t.Fatal(int(e))
		}
		wantPolish(t, l, z, i+k, second, api.OK)
	}
	l := list{2, -2, 0.001, 1}
	half, _ := zeros.Polish(l, 1, maxSteps/2)
	whole, _ := zeros.Polish(l, half, maxSteps/2)
	wantPolish(t, l, 1, maxSteps, whole, api.OK)
}

// areNear tells whether two pairs are near, this way round or that.
func areNear(a, b, u, v complex128) bool {
	near := func(a, u complex128) bool { return math.Hypot(real(a)-real(u), imag(a)-imag(u)) <= 0x1p-30 }
	return near(a, u) && near(b, v) || near(a, v) && near(b, u)
}

func checkSquare(t *testing.T, u, v complex128) {
	t.Helper()
	l, e := poly.Of(list{u, v})
	if e != api.OK {
		t.Fatal(int(e))
	}
	a, b, e := zeros.Square(l)
	if e != api.OK || !areNear(a, b, u, v) || !isAhead(a, b) {
		t.Errorf("Square of the zeros %v and %v: %v, %v, %d", u, v, a, b, int(e))
	}
}

func TestP9_9Square(t *testing.T) {
	d := newDice()
	for i := range 40000 {
		reach := []int{1, 3, 40, 1000}[i%4]
		u, v := d.whole(reach), d.whole(reach)
		checkSquare(t, u, v)
		checkSquare(t, u, u)
		checkSquare(t, u, -u)
		checkSquare(t, u, complex(real(u), -imag(u)))
		checkSquare(t, u, u+d.whole(1))
	}
	ends := list{1000 + 1000i, 1000 - 1000i, -1000 + 1000i, -1000 - 1000i, 1000, -1000i, 999 + 1000i, 1, 0, 1i, -1}
	for _, u := range ends {
		for _, v := range ends {
			checkSquare(t, u, v)
		}
	}
}

func conj(a complex128) complex128 { return complex(real(a), -imag(a)) }

func conjs(l list) list {
	out := make(list, len(l))
	for i, a := range l {
		out[i] = conj(a)
	}
	return out
}

// likeLists passes over the signs of noughts; all parts are numbers.
func likeLists(a, b list) bool {
	if len(a) != len(b) {
		return false
	}
	for i := range a {
		if a[i] != b[i] {
			return false
		}
	}
	return true
}

func TestP9_9Mirror(t *testing.T) {
	d := newDice()
	for i := range 6000 {
		l := d.any()
		z := d.places(l, 1+i%20)
		y, e := zeros.Round(l, z)
		m, f := zeros.Round(conjs(l), conjs(z))
		if e != api.OK || f != api.OK || !likeLists(m, conjs(y)) {
			t.Errorf("Round(%x, %x): %x, and of the mirror images %x", l, z, y, m)
		}
	}
}
