package solve_test

import (
	"testing"

	"eddy/api"
	"eddy/solve"
)

const spare = 3

// roomy is l with spare room, in which something stands.
func roomy[T any](l []T, filler T) []T {
	out := append(make([]T, 0, len(l)+spare), l...)
	for range spare {
		out = append(out, filler)
	}
	return out[:len(l)]
}

func roomyRows[T any](a [][]T, filler T) [][]T {
	out := make([][]T, len(a), len(a)+spare)
	for i, row := range a {
		out[i] = roomy(row, filler)
	}
	return out
}

// untouched tells whether a roomy list is what it was made of.
func untouched[T any](r, l []T, filler T, same func(T, T) bool) bool {
	whole := r[:len(l)+spare]
	for i, c := range whole {
		if i < len(l) && !same(c, l[i]) || i >= len(l) && !same(c, filler) {
			return false
		}
	}
	return true
}

// untouchedRows asks, too, that the rows stand where they stood, and that nothing was put behind them.
func untouchedRows[T any](r, a [][]T, filler T, same func(T, T) bool) bool {
	for i, row := range r[:len(a)+spare] {
		if i >= len(a) {
			if row != nil {
				return false
			}
			continue
		}
		if len(row) != len(a[i]) || !untouched(row, a[i], filler, same) {
			return false
		}
	}
	return true
}

func spoil[T any](l []T, filler T) {
	for i := range l[:cap(l)] {
		l[:cap(l)][i] = filler
	}
}

func checkRead(t *testing.T, a rows, x, b list) {
	t.Helper()
	r, y, c := roomyRows(a, 77), roomy(x, 77), roomy(b, 77)
	solve.Solve(r, c)
	solve.Pivots(r)
	solve.Det(r)
	solve.Off(r, y, c)
	if !untouchedRows(r, a, 77, sameFloats) || !untouched(y, x, 77, sameFloats) || !untouched(c, b, 77, sameFloats) {
		t.Errorf("%x, %x, %x are %x, %x, %x now", few(a), few(x), few(b), few(r), few(y), few(c))
	}
}

func checkComplexRead(t *testing.T, a planes, b places) {
	t.Helper()
	r, c := roomyRows(a, 7-7i), roomy(b, 7-7i)
	solve.Complex(r, c)
	if !untouchedRows(r, a, 7-7i, same) || !untouched(c, b, 7-7i, same) {
		t.Errorf("%x, %x are %x, %x now", few(a), few(b), few(r), few(c))
	}
}

func TestP14_5OnlyRead(t *testing.T) {
	d := newDice()
	for range 4000 {
		n := 1 + d.below(6)
		throw := d.thrower()
		checkRead(t, d.system(n, throw), d.list(n, throw), d.list(n, throw))
		checkComplexRead(t, d.planes(n, throw), d.places(n, throw))
	}
	for _, a := range systems() {
		for _, l := range lists() {
			checkRead(t, a, l, l)
			checkComplexRead(t, flat(a), flatList(l))
		}
	}
}

// Neither what is answered nor what was handed in changes with the other one, nor with an earlier answer.
func TestP14_5NewMemory(t *testing.T) {
	a, b := rows{{0, 1, 2}, {4, 0, 1}, {1, 8, 1}}, list{8, 6, 12}
	r, c := roomyRows(a, 77), roomy(b, 77)
	first, _ := solve.Solve(r, c)
	ought := append(list{}, first...)
	second, _ := solve.Solve(r, c)
	spoil(first, 99)
	if !untouchedRows(r, a, 77, sameFloats) || !untouched(c, b, 77, sameFloats) || !sameLists(second, ought) {
		t.Error("a spoilt answer shows")
	}
	for i := range r {
		spoil(r[i], 99)
	}
	spoil(c, 99)
	if len(ought) != 3 || !sameLists(second, ought) {
		t.Error("a spoilt system shows")
	}
	wantSolve(t, a, b, ought, api.OK)
}

func TestP14_5NewMemoryOfComplex(t *testing.T) {
	a, b := planes{{0, 1i, 2}, {4, 0, 1}, {1, 8i, 1}}, places{8, 6i, 12}
	r, c := roomyRows(a, 7i), roomy(b, 7i)
	first, _ := solve.Complex(r, c)
	ought := append(places{}, first...)
	second, _ := solve.Complex(r, c)
	spoil(first, 99)
	if !untouchedRows(r, a, 7i, same) || !untouched(c, b, 7i, same) || !samePlaces(second, ought) {
		t.Error("a spoilt answer shows")
	}
	for i := range r {
		spoil(r[i], 99)
	}
	spoil(c, 99)
	if len(ought) != 3 || !samePlaces(second, ought) {
		t.Error("a spoilt system shows")
	}
	wantComplex(t, a, b, ought, api.OK)
}

func TestP14_5NewMemoryOfPivots(t *testing.T) {
	a := rows{{0, 1}, {1, 0}}
	first, _ := solve.Pivots(a)
	second, _ := solve.Pivots(a)
	spoil(first, 99)
	if !sameNumbers(second, []int{1, 0}) {
		t.Error(second)
	}
	wantPivots(t, a, []int{1, 0}, api.OK)
}

// shared are systems whose rows lie in one array: beside each other with spare room that is the next row, over one another, or all of them one.
func shared(d *dice, n int, throw func() float64) []rows {
	beside, over, one := make(rows, n), make(rows, n), make(rows, n)
	all := d.list(n*n, throw)
	for i := range n {
		beside[i] = all[i*n : (i+1)*n]
		over[i] = all[i : i+n]
		one[i] = all[:n]
	}
	back := make(rows, n)
	for i := range n {
		back[i] = over[n-1-i]
	}
	return []rows{beside, over, one, back}
}

func apart(a rows) rows {
	out := make(rows, len(a))
	for i, row := range a {
		out[i] = append(list{}, row...)
	}
	return out
}

// Rows that share one array, and a list that is handed in twice, are as good as rows and lists of their own.
func TestP14_5SharedRows(t *testing.T) {
	d, s := newDice(), seen{}
	for range 2000 {
		n := 1 + d.below(5)
		for _, a := range shared(d, n, d.thrower()) {
			own := apart(a)
			b := a[d.below(n)]
			ownList := append(list{}, b...)
			x, e := solveSteps(own, ownList)
			s[e]++
			wantSolve(t, a, b, x, e)
			numbers, e := pivotSteps(own)
			wantPivots(t, a, numbers, e)
			det, e := detSteps(own)
			wantDet(t, a, det, e)
			off, e := offSteps(own, ownList, ownList)
			wantOff(t, a, b, b, off, e)
			if !alike(a, own, sameLists) {
				t.Fatalf("%x is %x now", own, a)
			}
		}
	}
	s.atLeast(t, 1000, api.OK, api.ErrSingular)
}

func TestP14_5SharedRowsOfComplex(t *testing.T) {
	d, s := newDice(), seen{}
	for range 2000 {
		n := 1 + d.below(5)
		all := d.places(2*n, d.thrower())
		a, own := make(planes, n), make(planes, n)
		for i := range n {
			a[i] = all[i : i+n]
			own[i] = append(places{}, a[i]...)
		}
		b := a[d.below(n)]
		x, e := solveComplexSteps(own, append(places{}, b...))
		s[e]++
		wantComplex(t, a, b, x, e)
		if !alike(a, own, samePlaces) {
			t.Fatalf("%x is %x now", own, a)
		}
	}
	s.atLeast(t, 200, api.OK, api.ErrSingular)
}

// Nothing is kept from call to call.
func TestP14_5NothingKept(t *testing.T) {
	for range 3 {
		wantSolve(t, rows{{2, 1}, {1, 3}}, list{3, 5}, list{0.8, 1.4}, api.OK)
		wantSolve(t, rows{{1, 2}, {2, 4}}, list{3, 5}, nil, api.ErrSingular)
		wantSolve(t, rows{{0, 1}, {1, 0}}, list{7, 9}, list{9, 7}, api.OK)
		wantDet(t, rows{{0, 1}, {1, 0}}, -1, api.OK)
		wantPivots(t, rows{{0, 1}, {1, 0}}, []int{1, 0}, api.OK)
		wantOff(t, rows{{1}}, list{1}, list{3}, 2, api.OK)
	}
}
