package solve_test

import (
	"testing"

	"eddy/api"
	"eddy/solve"
)

// refusal is what the chapter says of a system and of the lists beside it, from the left.
func refusal[T any](a [][]T, finite func(T) bool, beside ...[]T) refused {
	if len(a) == 0 || len(a) > 128 {
		return api.ErrMany
	}
	short, wrong := 0, 0
	for _, row := range a {
		if len(row) != len(a) {
			short++
		}
		wrong += wrongs(row, finite)
	}
	switch {
	case short > 0:
		return api.ErrShape
	case wrong > 0:
		return api.ErrReal
	}
	for _, l := range beside {
		switch {
		case len(l) != len(a):
			return api.ErrShape
		case wrongs(l, finite) > 0:
			return api.ErrReal
		}
	}
	return api.OK
}

func wrongs[T any](l []T, finite func(T) bool) int {
	n := 0
	for _, c := range l {
		if !finite(c) {
			n++
		}
	}
	return n
}

func isFinite(a float64) bool { return a-a == 0 }

func isFinitePlace(a complex128) bool { return isFinite(real(a)) && isFinite(imag(a)) }

// unit has n rows, each n wide.
func unit(n int) rows {
	a := make(rows, n)
	for i := range a {
		a[i] = make(list, n)
		a[i][i] = 1
	}
	return a
}

func ones(n int) list {
	l := make(list, n)
	for i := range l {
		l[i] = 1
	}
	return l
}

// systems are good ones and bad ones, and those that are bad in more than one way.
func systems() []rows {
	out := []rows{
		nil, {}, {{}}, {nil}, {{1}}, {{1, 2}}, {{none}}, {{none, 1}},
		{{1, 2}, {3, 4}}, {{1, 2}, {3}}, {{1}, {3, 4}}, {{1, 2}, nil}, {nil, {3, 4}}, {{}, {}},
		{{1, 2}, {3, 4, 5}}, {{1, 2, 3}, {3, 4}}, {{1, 2, 3}, {3, 4, 5}}, {{1, 2}, {3, 4}, {5, 6}},
		{{1, 0, 0}, {0, 1, 0}, {0, 0}}, {{1, 0, 0}, {0, 1, 0, 7}, {0, 0, 1}},
		{{none, 2}, {3}}, {{1}, {none, 2}}, {{infinite, 2}, nil}, {{1, 2}, {3, 4, none}},
		unit(most), unit(most + 1), unit(most + 1)[:most], append(unit(most), nil),
	}
	for _, c := range strange {
		for k := range 4 {
			a := rows{{1, 2}, {3, 4}}
			a[k/2][k%2] = c
			out = append(out, a)
		}
		last := unit(most)
		last[most-1][most-1] = c
		out = append(out, rows{{c}}, last, append(unit(most), list{c}))
	}
	return out
}

// lists go beside them: some are as long as one of the systems, in the others something is wrong.
func lists() []list {
	out := []list{nil, {}, {1}, {1, 2}, {1, 2, 3}, {1, 2, 3, 4}, ones(most), ones(most - 1), ones(most + 1)}
	for _, c := range strange {
		last := ones(most)
		last[most-1] = c
		out = append(out, list{c}, list{c, 1}, list{1, c}, list{1, 1, c}, last)
	}
	return out
}

func wantRefusal(t *testing.T, call string, a rows, beside []list, got, want refused, nothing bool) {
	t.Helper()
	if got == api.ErrSingular && want == api.OK {
		return // that comes up while working
	}
	if got != want || want != api.OK && !nothing {
		t.Errorf("%s of %x, %x: %d, not %d, beside it nothing: %t", call, few(a), beside, int(got), int(want), nothing)
	}
}

func TestP14_1RefusedSolve(t *testing.T) {
	for _, a := range systems() {
		for _, b := range lists() {
			x, e := solve.Solve(a, b)
			wantRefusal(t, "Solve", a, []list{b}, e, refusal(a, isFinite, b), len(x) == 0)
		}
	}
}

// turned stands for imaginary parts alone, in which a wrong float counts as it does in real ones.
func turned(l list) places {
	out := make(places, len(l))
	for i, c := range l {
		out[i] = complex(1, c)
	}
	return out
}

func TestP14_1RefusedComplex(t *testing.T) {
	for _, a := range systems() {
		for _, of := range []func(list) places{flatList, turned} {
			p := make(planes, len(a))
			for i, row := range a {
				p[i] = of(row)
			}
			for _, b := range lists() {
				x, e := solve.Complex(p, of(b))
				wantRefusal(t, "Complex", a, []list{b}, e, refusal(p, isFinitePlace, of(b)), len(x) == 0)
			}
		}
	}
}

func TestP14_2Refused(t *testing.T) {
	for _, a := range systems() {
		numbers, e := solve.Pivots(a)
		wantRefusal(t, "Pivots", a, nil, e, refusal(a, isFinite), len(numbers) == 0)
	}
}

func TestP14_3Refused(t *testing.T) {
	for _, a := range systems() {
		d, e := solve.Det(a)
		wantRefusal(t, "Det", a, nil, e, refusal(a, isFinite), sameFloats(d, 0))
	}
}

func TestP14_4Refused(t *testing.T) {
	for _, a := range systems() {
		for _, x := range lists() {
			for _, b := range lists() {
				off, e := solve.Off(a, x, b)
				wantRefusal(t, "Off", a, []list{x, b}, e, refusal(a, isFinite, x, b), sameFloats(off, 0))
			}
		}
	}
}

// Two things are wrong at once, written out: the system's length, its rows' lengths, its elements, then each list by itself.
func TestP14_4OrderOfErrors(t *testing.T) {
	good, short, no := rows{{1, 2}, {3, 4}}, rows{{1, none}, {3}}, rows{{1, none}, {3, 4}}
	wantOff(t, nil, list{none}, nil, 0, api.ErrMany)
	wantOff(t, append(unit(most), list{none}), list{none}, nil, 0, api.ErrMany)
	wantOff(t, short, list{1, 2}, list{1, 2}, 0, api.ErrShape)
	wantOff(t, short, list{none, 2}, list{1}, 0, api.ErrShape)
	wantOff(t, no, list{1}, list{1}, 0, api.ErrReal)
	wantOff(t, good, list{1}, list{none, 2}, 0, api.ErrShape)
	wantOff(t, good, list{none, 2}, list{1}, 0, api.ErrReal)
	wantOff(t, good, list{none}, list{1, 2}, 0, api.ErrShape)
	wantOff(t, good, list{1, 2}, list{1, 2, none}, 0, api.ErrShape)
	wantOff(t, good, list{1, 2}, list{1, infinite}, 0, api.ErrReal)
	wantOff(t, good, list{1, 2}, list{1, 2}, 9, api.OK)
}

// What is wrong with a list counts ahead of what comes up while working.
func TestP14_1SingularLast(t *testing.T) {
	a := rows{{1, 2}, {2, 4}}
	wantSolve(t, a, list{1}, nil, api.ErrShape)
	wantSolve(t, a, list{1, none}, nil, api.ErrReal)
	wantSolve(t, a, list{1, 1}, nil, api.ErrSingular)
	wantComplex(t, flat(a), places{1}, nil, api.ErrShape)
	wantComplex(t, flat(a), places{1, complex(0, infinite)}, nil, api.ErrReal)
	wantComplex(t, flat(a), places{1, 1}, nil, api.ErrSingular)
}
