package solve_test

import (
	"math"
	"testing"

	"eddy/api"
	"eddy/solve"
)

// The operations as calls that are not inlined: none of them can be fused with another one.

//go:noinline
func plus(x, y float64) float64 { return x + y }

//go:noinline
func minus(x, y float64) float64 { return x - y }

//go:noinline
func times(x, y float64) float64 { return x * y }

//go:noinline
func over(x, y float64) float64 { return x / y }

func sub(a, b complex128) complex128 {
	return complex(minus(real(a), real(b)), minus(imag(a), imag(b)))
}

func mul(a, b complex128) complex128 {
	p, q, r, s := real(a), imag(a), real(b), imag(b)
	return complex(minus(times(p, r), times(q, s)), plus(times(p, s), times(q, r)))
}

func div(a, b complex128) complex128 {
	p, q, r, s := real(a), imag(a), real(b), imag(b)
	if math.Abs(r) >= math.Abs(s) {
		k := over(s, r)
		t := plus(r, times(s, k))
		return complex(over(plus(p, times(q, k)), t), over(minus(q, times(p, k)), t))
	}
	k := over(r, s)
	t := plus(times(r, k), s)
	return complex(over(plus(times(p, k), q), t), over(minus(times(q, k), p), t))
}

// What follows are the chapter's words, one operation a call, of systems that may be.
// The rows stay where they are: order tells which of them stands where.

// floatSteps tells, too, which pivots came up, the last one being the one that ends it where the system is singular.
func floatSteps(a rows, b list) (m rows, right list, order []int, pivots list, moved int, singular bool) {
	for i, row := range a {
		m = append(m, append(list{}, row...))
		order = append(order, i)
	}
	right = append(right, b...)
	for k := range a {
		p := k
		for i := k + 1; i < len(a); i++ {
			if math.Abs(m[order[i]][k]) > math.Abs(m[order[p]][k]) {
				p = i
			}
		}
		if p != k {
			moved++
			order[k], order[p] = order[p], order[k]
		}
		top := order[k]
		pivots = append(pivots, m[top][k])
		if m[top][k] == 0 || !isFinite(m[top][k]) {
			return m, right, order, pivots, moved, true
		}
		for _, i := range order[k+1:] {
			f := over(m[i][k], m[top][k])
			for j := k + 1; j < len(a); j++ {
				m[i][j] = minus(m[i][j], times(f, m[top][j]))
			}
			right[i] = minus(right[i], times(f, right[top]))
		}
	}
	return m, right, order, pivots, moved, false
}

func solveSteps(a rows, b list) (list, refused) {
	m, right, order, _, _, singular := floatSteps(a, b)
	if singular {
		return nil, api.ErrSingular
	}
	n := len(a)
	x := make(list, n)
	for i := n - 1; i >= 0; i-- {
		s := right[order[i]]
		for j := i + 1; j < n; j++ {
			s = minus(s, times(m[order[i]][j], x[j]))
		}
		x[i] = over(s, m[order[i]][i])
	}
	if wrongs(x, isFinite) > 0 {
		return nil, api.ErrSingular
	}
	return x, api.OK
}

func pivotSteps(a rows) ([]int, refused) {
	_, _, order, _, _, singular := floatSteps(a, make(list, len(a)))
	if singular {
		return nil, api.ErrSingular
	}
	return order, api.OK
}

// detSteps turns the sign once for all steps: all the products are the same but for their signs.
func detSteps(a rows) (float64, refused) {
	_, _, _, pivots, moved, _ := floatSteps(a, make(list, len(a)))
	d := 1.0
	for _, p := range pivots {
		if p == 0 {
			return 0, api.OK
		}
		if !isFinite(p) {
			return 0, api.ErrPlace
		}
		d = times(d, p)
	}
	if !isFinite(d) {
		return 0, api.ErrPlace
	}
	if moved%2 == 1 {
		d = math.Copysign(d, times(-1, math.Copysign(1, d)))
	}
	return d, api.OK
}

func offSteps(a rows, x, b list) (float64, refused) {
	off := 0.0
	for i := range a {
		s := 0.0
		for j := range a {
			s = plus(s, times(a[i][j], x[j]))
		}
		far := math.Abs(minus(s, b[i]))
		if !isFinite(far) {
			return 0, api.ErrPlace
		}
		if far > off {
			off = far
		}
	}
	return off, api.OK
}

func complexSteps(a planes, b places) (m planes, right places, order []int, singular bool) {
	for i, row := range a {
		m = append(m, append(places{}, row...))
		order = append(order, i)
	}
	right = append(right, b...)
	great := func(c complex128) float64 { return plus(math.Abs(real(c)), math.Abs(imag(c))) }
	for k := range a {
		p := k
		for i := k + 1; i < len(a); i++ {
			if great(m[order[i]][k]) > great(m[order[p]][k]) {
				p = i
			}
		}
		order[k], order[p] = order[p], order[k]
		top := order[k]
		pivot := m[top][k]
		if real(pivot) == 0 && imag(pivot) == 0 || !isFinitePlace(pivot) {
			return m, right, order, true
		}
		for _, i := range order[k+1:] {
			f := div(m[i][k], pivot)
			for j := k + 1; j < len(a); j++ {
				m[i][j] = sub(m[i][j], mul(f, m[top][j]))
			}
			right[i] = sub(right[i], mul(f, right[top]))
		}
	}
	return m, right, order, false
}

func solveComplexSteps(a planes, b places) (places, refused) {
	m, right, order, singular := complexSteps(a, b)
	if singular {
		return nil, api.ErrSingular
	}
	n := len(a)
	x := make(places, n)
	for i := n - 1; i >= 0; i-- {
		s := right[order[i]]
		for j := i + 1; j < n; j++ {
			s = sub(s, mul(m[order[i]][j], x[j]))
		}
		x[i] = div(s, m[order[i]][i])
	}
	if wrongs(x, isFinitePlace) > 0 {
		return nil, api.ErrSingular
	}
	return x, api.OK
}

// seen counts the answers of each kind, lest a test ask for one of them alone.
type seen map[refused]int

func (s seen) atLeast(t *testing.T, n int, kinds ...refused) {
	t.Helper()
	for _, e := range kinds {
		if s[e] < n {
			t.Errorf("%d came up %d times", int(e), s[e])
		}
	}
}

func TestP14_1SolveSteps(t *testing.T) {
	d, s := newDice(), seen{}
	for range 40000 {
		n := 1 + d.below(6)
		throw := d.thrower()
		a, b := d.system(n, throw), d.list(n, d.thrower())
		x, e := solveSteps(a, b)
		s[e]++
		wantSolve(t, a, b, x, e)
	}
	s.atLeast(t, 5000, api.OK, api.ErrSingular)
}

func TestP14_1ComplexSteps(t *testing.T) {
	d, s := newDice(), seen{}
	for range 40000 {
		n := 1 + d.below(5)
		throw := d.thrower()
		a, b := d.planes(n, throw), d.places(n, d.thrower())
		x, e := solveComplexSteps(a, b)
		s[e]++
		wantComplex(t, a, b, x, e)
	}
	s.atLeast(t, 5000, api.OK, api.ErrSingular)
}

func TestP14_2PivotsSteps(t *testing.T) {
	d, s := newDice(), seen{}
	for range 40000 {
		a := d.system(1+d.below(7), d.thrower())
		numbers, e := pivotSteps(a)
		s[e]++
		wantPivots(t, a, numbers, e)
	}
	s.atLeast(t, 5000, api.OK, api.ErrSingular)
}

func TestP14_3DetSteps(t *testing.T) {
	d, s := newDice(), seen{}
	noughts := 0
	for range 40000 {
		a := d.system(1+d.below(7), d.thrower())
		det, e := detSteps(a)
		s[e]++
		if e == api.OK && det == 0 {
			noughts++
		}
		wantDet(t, a, det, e)
	}
	s.atLeast(t, 5000, api.OK, api.ErrPlace)
	if noughts < 2000 {
		t.Errorf("only %d noughts", noughts)
	}
}

func TestP14_4OffSteps(t *testing.T) {
	d, s := newDice(), seen{}
	for range 40000 {
		n := 1 + d.below(6)
		a, x, b := d.system(n, d.thrower()), d.list(n, d.thrower()), d.list(n, d.thrower())
		off, e := offSteps(a, x, b)
		s[e]++
		wantOff(t, a, x, b, off, e)
	}
	s.atLeast(t, 5000, api.OK, api.ErrPlace)
}

// As many unknowns as there may be, and nearly so many.
func TestP14_1ManyUnknowns(t *testing.T) {
	d := newDice()
	for _, n := range []int{1, 20, 64, most - 1, most} {
		throw := func() float64 { return d.part(-3, 3) }
		for range 2 {
			a, b := d.system(n, throw), d.list(n, throw)
			x, e := solveSteps(a, b)
			wantSolve(t, a, b, x, e)
			numbers, e := pivotSteps(a)
			wantPivots(t, a, numbers, e)
			det, e := detSteps(a)
			wantDet(t, a, det, e)
			off, e := offSteps(a, b, b)
			wantOff(t, a, b, b, off, e)
			p, q := d.planes(n, throw), d.places(n, throw)
			y, e := solveComplexSteps(p, q)
			wantComplex(t, p, q, y, e)
		}
		wantSolve(t, unit(n), ones(n), ones(n), api.OK)
	}
	if _, e := solve.Solve(unit(most+1), ones(most+1)); e != api.ErrMany {
		t.Error(int(e))
	}
}
