package count

import (
	"eddy/api"
	"eddy/box"
	"eddy/parts"
)

// walk is all walks that are one: what has been looked at counts over all of them. One that is not sure panics, so that nothing on the way up has to ask.
type walk struct {
	l      []complex128
	depth  int
	looked int
}

func newWalk(l []complex128, depth int) *walk { return &walk{l: l, depth: depth} }

// round is how often the values go round nought along a closed path.
func (w *walk) round(path []complex128) int {
	leans := w.leans(path)
	quarters := 0
	for i, lean := range leans {
		quarters += turned(lean, leans[(i+1)%len(leans)])
	}
	return quarters / 4
}

// leans are those of all pieces of a closed path that were not halved, in the order of the way.
func (w *walk) leans(path []complex128) []int {
	var leans []int
	var over func(from, to complex128, left int)
	over = func(from, to complex128, left int) {
		if lean, ok := w.look(from, to); ok {
			leans = append(leans, lean)
			return
		}
		m := middle(from, to)
		if left == 0 || parts.Like(m, from) || parts.Like(m, to) {
			panic(api.ErrUnsure)
		}
		over(from, m, left-1)
		over(m, to, left-1)
	}
	for i, from := range path {
		over(from, path[(i+1)%len(path)], w.depth)
	}
	return leans
}

// look tells how a piece leans, if it does.
func (w *walk) look(from, to complex128) (lean int, ok bool) {
	if w.looked == api.MaxSteps {
		panic(api.ErrUnsure)
	}
	w.looked++
	around, e := box.Make(from, to)
	if e != api.OK {
		return 0, false
	}
	values, e := box.Poly(w.l, around)
	if e != api.OK {
		return 0, false
	}
	return leanOf(values)
}

// leanOf is on which side of nought all values lie: 0 right, 1 up, 2 left, 3 down.
func leanOf(values api.Box) (lean int, ok bool) {
	switch {
	case real(values.Low) > 0:
		return 0, true
	case imag(values.Low) > 0:
		return 1, true
	case real(values.High) < 0:
		return 2, true
	case imag(values.High) < 0:
		return 3, true
	}
	return 0, false
}

// turned is by how many quarters a lean goes to the next one. Half a turn it never goes: no value lies on two opposite sides of nought, and both pieces have that of the place where they meet.
func turned(lean, next int) int {
	switch (next - lean + 4) % 4 {
	case 1:
		return 1
	case 3:
		return -1
	}
	return 0
}

// middle halves the parts first, as their sum may pass all floats. It is not held between the places, as box.Middle is: the chapter asks for these operations alone.
func middle(a, b complex128) complex128 {
	return complex(float64(real(a)/2)+float64(real(b)/2), float64(imag(a)/2)+float64(imag(b)/2))
}

// border is that of a box, to the left.
func border(b api.Box) []complex128 {
	return []complex128{
		b.Low,
		complex(real(b.High), imag(b.Low)),
		b.High,
		complex(real(b.Low), imag(b.High)),
	}
}
