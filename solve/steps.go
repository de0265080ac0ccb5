package solve

import (
	"math"

	"eddy/api"
	"eddy/parts"
)

// number is what a system is made of. Go's own minus goes by parts in both.
type number interface{ ~float64 | ~complex128 }

// arithmetic is what each of them does in its own way: Go's own products and quotients of complex numbers are not those of parts.
type arithmetic[T number] struct {
	times, over        func(a, b T) T
	great              func(T) float64
	isNought, isFinite func(T) bool
}

// floats have products that are rounded by themselves, lest a machine fuse them with a difference.
func floats() arithmetic[float64] {
	return arithmetic[float64]{
		times:    func(a, b float64) float64 { return float64(a * b) },
		over:     func(a, b float64) float64 { return a / b },
		great:    math.Abs,
		isNought: func(a float64) bool { return a == 0 },
		isFinite: func(a float64) bool { return parts.Finite(complex(a, 0)) },
	}
}

func complexNumbers() arithmetic[complex128] {
	return arithmetic[complex128]{
		times:    parts.Mul,
		over:     parts.Div,
		great:    func(a complex128) float64 { return math.Abs(real(a)) + math.Abs(imag(a)) },
		isNought: func(a complex128) bool { return parts.Like(a, 0) },
		isFinite: parts.Finite,
	}
}

// solved is the x of the way back behind the steps.
func solved[T number](m arithmetic[T], a [][]T, b []T) ([]T, api.Errno) {
	if e := check(m, a, b); e != api.OK {
		return nil, e
	}
	rows := copied(a)
	for i := range rows {
		rows[i] = append(rows[i], b[i])
	}
	if _, singular := steps(m, rows); singular {
		return nil, api.ErrSingular
	}
	x := wayBack(m, rows)
	if !areFinite(m, x) {
		return nil, api.ErrSingular
	}
	return x, api.OK
}

// copied has room for a right side behind each row.
func copied[T number](a [][]T) [][]T {
	rows := make([][]T, len(a))
	for i, row := range a {
		rows[i] = make([]T, len(row), len(row)+1)
		copy(rows[i], row)
	}
	return rows
}

// steps goes the steps on rows themselves. A right side goes along as one more element of each row: what is done to both is the same.
// taken are the places at which the pivots' rows stood, step by step; of a singular system the last one is that of the pivot that makes it so.
func steps[T number](m arithmetic[T], rows [][]T) (taken []int, singular bool) {
	for k := range rows {
		i := greatest(m, rows, k)
		rows[k], rows[i] = rows[i], rows[k]
		taken = append(taken, i)
		if pivot := rows[k][k]; m.isNought(pivot) || !m.isFinite(pivot) {
			return taken, true
		}
		for _, row := range rows[k+1:] {
			takeAway(m, row[k:], rows[k][k:])
		}
	}
	return taken, false
}

// greatest is the row, from k on, whose element k is greatest. One that is no number is greater than none, and none is greater than it.
func greatest[T number](m arithmetic[T], rows [][]T, k int) int {
	best := k
	for i := range rows[k:] {
		if m.great(rows[k+i][k]) > m.great(rows[best][k]) {
			best = k + i
		}
	}
	return best
}

// takeAway takes the pivot's row so often from row that its first element would be gone; nobody asks for that one any more.
func takeAway[T number](m arithmetic[T], row, pivots []T) {
	f := m.over(row[0], pivots[0])
	for j := range row[1:] {
		row[j+1] -= m.times(f, pivots[j+1])
	}
}

// wayBack finds the unknowns from the last one on; the right sides stand behind the rows.
func wayBack[T number](m arithmetic[T], rows [][]T) []T {
	n := len(rows)
	x := make([]T, n)
	for back := range n {
		i := n - 1 - back
		s := rows[i][n]
		for j := i + 1; j < n; j++ {
			s -= m.times(rows[i][j], x[j])
		}
		x[i] = m.over(s, rows[i][i])
	}
	return x
}
