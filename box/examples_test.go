package box_test

import (
	"testing"

	"eddy/api"
	"eddy/box"
)

// The chapter's table, row by row.
func TestExamplesOfBoxes(t *testing.T) {
	one := of(0, 1, 0, 1)
	wantCheck(t, one, api.OK)
	wantCheck(t, of(1, 0, 0, 1), api.ErrBox)
	wantCheck(t, of(0, infinite, 0, 1), api.ErrBox)
	wantCheck(t, of(0, minusNought, 0, 0), api.OK)

	got, e := box.Make(1+2i, 3i)
	wantBox(t, "Make", of(0, 1, 2, 3), api.OK, got, e)
	got, e = box.Point(complex(1, minusNought))
	wantBox(t, "Point", of(1, 1, minusNought, minusNought), api.OK, got, e)
	got, e = box.Make(complex(none, 0), 1)
	wantBox(t, "Make", api.Box{}, api.ErrBox, got, e)

	wantHas(t, one, 1+1i, true)
	wantHas(t, one, 1+1.5i, false)
	if !box.Over(one, of(1, 2, 1, 2)) || !box.In(one, of(0, 2, 0, 2)) {
		t.Error("Over, In")
	}
}

func TestExamplesOfEnclosing(t *testing.T) {
	got, e := box.Add(of(0, 1, 0, 1), of(1, 2, 0, 0))
	wantBox(t, "Add", of(0.9999999999999999, 3.0000000000000004, -5e-324, 1.0000000000000002), api.OK, got, e)

	got, e = box.Turned(of(-1, 1, -1, 1))
	wantBox(t, "Turned", api.Box{}, api.ErrPlace, got, e)
	got, e = box.Turned(of(0, 0, 0, 0))
	wantBox(t, "Turned", api.Box{}, api.ErrPlace, got, e)
	got, e = box.Turned(of(2, 2, 0, 0))
	wantHas(t, got, 0.5, true)
	if w, f := box.Wide(got); e != api.OK || f != api.OK || w > 0x1p-50 {
		t.Errorf("%x, %d, wide %x, %d", got, int(e), w, int(f))
	}

	line := of(1, 2, 0, 0)
	got, e = box.Poly(list{0, 0, 1}, line)
	for _, z := range []complex128{1, 4, 2.25} {
		wantHas(t, got, z, true)
	}
	if e != api.OK {
		t.Error(int(e))
	}
	wantPoly(t, list{5}, line, of(5, 5, 0, 0), api.OK)
	wantSlope(t, list{5}, line, of(0, 0, 0, 0), api.OK)
}

func TestExamplesOfParts(t *testing.T) {
	b := of(0, 2, 0, 4)
	wantFour(t, b, [4]api.Box{of(0, 1, 0, 2), of(1, 2, 0, 2), of(0, 1, 2, 4), of(1, 2, 2, 4)}, api.OK)
	wantMiddle(t, b, 1+2i, api.OK)
	wantWide(t, b, 4, api.OK)
	wantWide(t, of(-0x1p1023, 0x1p1023, 0, 0), 0, api.ErrPlace)
}
