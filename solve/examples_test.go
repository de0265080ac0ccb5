package solve_test

import (
	"testing"

	"eddy/api"
)

// The rows of the chapter's table, in its order.
func TestExamples(t *testing.T) {
	wantSolve(t, rows{{2, 1}, {1, 3}}, list{3, 5}, list{0.8, 1.4}, api.OK)
	wantSolve(t, rows{{0, 1}, {1, 0}}, list{7, 9}, list{9, 7}, api.OK)
	wantSolve(t, rows{{4}}, list{2}, list{0.5}, api.OK)

	wantSolve(t, rows{{1, 2}, {2, 4}}, list{1, 2}, nil, api.ErrSingular)
	wantSolve(t, rows{}, list{}, nil, api.ErrMany)
	wantSolve(t, rows{{1, 2}, {3}}, list{1, 2}, nil, api.ErrShape)
	wantSolve(t, rows{{1, 2}, {3, 4}}, list{1}, nil, api.ErrShape)
	wantSolve(t, rows{{none}}, list{1}, nil, api.ErrReal)

	wantPivots(t, rows{{0, 1}, {1, 0}}, []int{1, 0}, api.OK)
	wantPivots(t, rows{{1, 2}, {1, 3}}, []int{0, 1}, api.OK)
	wantPivots(t, rows{{1, 5, 1}, {2, 1, 1}, {-4, 0, 1}}, []int{2, 0, 1}, api.OK)

	wantDet(t, rows{{1, 2}, {3, 4}}, -2, api.OK)
	wantDet(t, rows{{1, 2}, {2, 4}}, 0, api.OK)
	wantDet(t, rows{{0x1p600, 0}, {0, 0x1p600}}, 0, api.ErrPlace)

	wantOff(t, rows{{1, 1}, {1, -1}}, list{1, 2}, list{3, 0}, 1, api.OK)
	wantOff(t, rows{{1}}, list{1}, list{1}, 0, api.OK)
}

// The table leaves noughts' signs open.
func TestExamplesComplex(t *testing.T) {
	wantLike(t, planes{{1i}}, places{1}, places{-1i})
	wantLike(t, planes{{1, 1i}, {1i, 1}}, places{1, 0}, places{0.5, -0.5i})
}
