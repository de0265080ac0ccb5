package count_test

import (
	"testing"

	"eddy/api"
	"eddy/count"
)

// The rows of the chapter's table, in its order.
func TestExamples(t *testing.T) {
	b := square(2)
	wantZeros(t, list{1, 0, 1}, b, 8, 2, api.OK)
	wantZeros(t, list{-1, 0, 0, 1}, b, 8, 3, api.OK)
	wantZeros(t, list{5}, b, 0, 0, api.OK)
	wantZeros(t, list{0, 0, 1}, b, 8, 2, api.OK)

	wantZeros(t, list{-2, 1}, b, 24, 0, api.ErrUnsure)
	wantZeros(t, list{1, 0, 1}, b, 0, 0, api.ErrUnsure)
	wantZeros(t, list{0}, b, 8, 0, api.ErrPoly)
	wantZeros(t, list{1}, api.Box{High: 1}, 8, 0, api.ErrBox)
	wantZeros(t, list{1}, b, 25, 0, api.ErrArg)

	wantBoth(t, list{1, 0, 1}, list{0, 1}, b, 8, 1, api.OK)
	wantBoth(t, list{1}, list{1, 0, 1}, b, 8, -2, api.OK)

	wantRound(t, list{0, 1}, corners(b), 8, 1, 4, api.OK)
	wantRound(t, list{0, 1}, back(corners(b)), 8, -1, 4, api.OK)
	wantRound(t, list{0, 1}, list{1, 2, 3}, 8, 0, 3, api.OK)
}

func TestExampleOfFind(t *testing.T) {
	found, zeros, e := count.Find(list{1, 0, 1}, square(2), 0.5, 20)
	if e != api.OK || len(found) != 2 || !sameCounts(zeros, []int{1, 1}) {
		t.Fatalf("%v, %d, %d", found, zeros, int(e))
	}
	checkFound(t, list{1, 0, 1}, square(2), 0.5, found, zeros)
	for i, z := range []complex128{-1i, 1i} {
		if !isInside(z, found[i]) {
			t.Errorf("%v is not about %v", found[i], z)
		}
	}
}
