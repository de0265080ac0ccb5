package count

import (
	"eddy/api"
	"eddy/box"
)

// counted is a box with how often its border goes round nought.
type counted struct {
	box   api.Box
	zeros int
}

func (w *walk) counted(b api.Box) counted { return counted{b, w.round(border(b))} }

// find are the boxes that are narrow enough, as they come up.
func (w *walk) find(b api.Box, most float64) []counted {
	var found []counted
	var takeApart func(c counted, cuts int)
	takeApart = func(c counted, cuts int) {
		switch {
		case c.zeros == 0:
		case isNarrow(c.box, most):
			found = append(found, c)
		case cuts == w.depth:
			panic(api.ErrUnsure)
		default:
			for _, quarter := range w.quarters(c.box) {
				takeApart(quarter, cuts+1)
			}
		}
	}
	takeApart(w.counted(b), 0)
	return found
}

// quarters are those of the first cut by which all four are sure: a zero that lies on one cut is missed by another.
func (w *walk) quarters(b api.Box) [4]counted {
	for _, t := range [...]float64{0.5, 0.4375, 0.59375, 0.46875} {
		if quarters, ok := w.cut(b, t); ok {
			return quarters
		}
	}
	panic(api.ErrUnsure)
}

// cut are the quarters of a box by one cut, if all four are sure.
func (w *walk) cut(b api.Box, t float64) (quarters [4]counted, ok bool) {
	x, y := along(real(b.Low), real(b.High), t), along(imag(b.Low), imag(b.High), t)
	if !isBetween(real(b.Low), x, real(b.High)) || !isBetween(imag(b.Low), y, imag(b.High)) {
		return quarters, false
	}
	defer func() {
		if recover() != nil {
			quarters, ok = [4]counted{}, false
		}
	}()
	for i, quarter := range quartersAt(b, complex(x, y)) {
		quarters[i] = w.counted(quarter)
	}
	return quarters, true
}

func quartersAt(b api.Box, at complex128) [4]api.Box {
	return [4]api.Box{
		{Low: b.Low, High: at},
		{Low: complex(real(at), imag(b.Low)), High: complex(real(b.High), imag(at))},
		{Low: complex(real(b.Low), imag(at)), High: complex(real(at), imag(b.High))},
		{Low: at, High: b.High},
	}
}

// along is the place that lies the part t of the way from low to high.
func along(low, high, t float64) float64 { return low + float64(t*(high-low)) }

func isBetween(low, x, high float64) bool { return low < x && x < high }

func isNarrow(b api.Box, most float64) bool {
	wide, e := box.Wide(b)
	return e == api.OK && wide <= most
}
