package count_test

import (
	"cmp"
	"slices"

	"eddy/api"
	"eddy/box"
)

// The chapter's words once more: a walk is a list of what is still to be walked over, and nothing calls itself.

// piece is a way, with how often it may still be halved.
type piece struct {
	from, to complex128
	left     int
}

// looks is what has been looked at, of so many at most.
type looks struct{ done, most int }

func alike(a, b complex128) bool { return real(a) == real(b) && imag(a) == imag(b) }

// leanSteps is how a piece leans, or -1.
func leanSteps(l list, p piece) int {
	b, e := box.Make(p.from, p.to)
	if e != api.OK {
		return -1
	}
	v, e := box.Poly(l, b)
	if e != api.OK {
		return -1
	}
	for i, leans := range []bool{real(v.Low) > 0, imag(v.Low) > 0, real(v.High) < 0, imag(v.High) < 0} {
		if leans {
			return i
		}
	}
	return -1
}

func halves(p piece) (first, second piece) {
	x, y := real(p.from)/2, imag(p.from)/2
	x, y = x+real(p.to)/2, y+imag(p.to)/2
	m := complex(x, y)
	return piece{p.from, m, p.left - 1}, piece{m, p.to, p.left - 1}
}

// leansSteps are the leans along a closed path, if the walk is sure.
func (k *looks) leansSteps(l, path list, depth int) (leans []int, sure bool) {
	var todo []piece // what comes first stands last
	for i := len(path) - 1; i >= 0; i-- {
		todo = append(todo, piece{path[i], path[(i+1)%len(path)], depth})
	}
	for len(todo) > 0 {
		p := todo[len(todo)-1]
		todo = todo[:len(todo)-1]
		if k.done == k.most {
			return nil, false
		}
		k.done++
		if lean := leanSteps(l, p); lean >= 0 {
			leans = append(leans, lean)
			continue
		}
		first, second := halves(p)
		if p.left == 0 || alike(first.to, p.from) || alike(first.to, p.to) {
			return nil, false
		}
		todo = append(todo, second, first)
	}
	return leans, true
}

// roundSteps is how often it goes round.
func (k *looks) roundSteps(l, path list, depth int) (n int, sure bool) {
	leans, sure := k.leansSteps(l, path, depth)
	if !sure {
		return 0, false
	}
	by := [4][4]int{{0, 1, 9, -1}, {-1, 0, 1, 9}, {9, -1, 0, 1}, {1, 9, -1, 0}}
	last := leans[len(leans)-1]
	for _, lean := range leans {
		if by[last][lean] == 9 {
			panic("a lean goes by 2")
		}
		n += by[last][lean]
		last = lean
	}
	if n%4 != 0 {
		panic("a piece of a turn")
	}
	return n / 4, true
}

// zerosSteps, roundCall: what Zeros and Round answer of arguments that may be.
func zerosSteps(l list, b api.Box, depth int) (int, api.Errno) {
	n, _, e := roundCall(l, corners(b), depth)
	return n, e
}

func roundCall(l, path list, depth int) (n, pieces int, e api.Errno) {
	k := looks{most: steps}
	n, sure := k.roundSteps(l, path, depth)
	if !sure {
		return 0, 0, api.ErrUnsure
	}
	return n, k.done, api.OK
}

// area is a box to be taken apart.
type area struct {
	b           api.Box
	zeros, cuts int
}

// cutSteps are the quarters by one number, if all of them are sure.
func (k *looks) cutSteps(l list, a area, depth int, t float64) (quarters []area, sure bool) {
	low, high := a.b.Low, a.b.High
	x := float64(t * (real(high) - real(low)))
	x = real(low) + x
	y := float64(t * (imag(high) - imag(low)))
	y = imag(low) + y
	if !(real(low) < x && x < real(high) && imag(low) < y && y < imag(high)) {
		return nil, false
	}
	for _, b := range []api.Box{of(real(low), x, imag(low), y), of(x, real(high), imag(low), y), of(real(low), x, y, imag(high)), of(x, real(high), y, imag(high))} {
		n, sure := k.roundSteps(l, corners(b), depth)
		if !sure {
			return nil, false
		}
		quarters = append(quarters, area{b, n, a.cuts + 1})
	}
	return quarters, true
}

// findSteps is what Find answers of arguments that may be; k tells how many pieces it took.
func (k *looks) findSteps(l list, b api.Box, wide float64, depth int) (boxes []api.Box, zeros []int, e api.Errno) {
	n, sure := k.roundSteps(l, corners(b), depth)
	if !sure {
		return nil, nil, api.ErrUnsure
	}
	todo := []area{{b, n, 0}} // what comes first stands last
	var found []area
	for len(todo) > 0 {
		a := todo[len(todo)-1]
		todo = todo[:len(todo)-1]
		if a.zeros == 0 {
			continue
		}
		if w, e := box.Wide(a.b); e == api.OK && w <= wide {
			found = append(found, a)
			continue
		}
		if a.cuts == depth {
			return nil, nil, api.ErrUnsure
		}
		quarters, sure := []area(nil), false
		for _, t := range []float64{0.5, 0.4375, 0.59375, 0.46875} {
			if quarters, sure = k.cutSteps(l, a, depth, t); sure {
				break
			}
		}
		if !sure {
			return nil, nil, api.ErrUnsure
		}
		for i := range quarters {
			todo = append(todo, quarters[len(quarters)-1-i])
		}
	}
	slices.SortStableFunc(found, func(a, b area) int {
		return cmp.Or(cmp.Compare(real(a.b.Low), real(b.b.Low)), cmp.Compare(imag(a.b.Low), imag(b.b.Low)))
	})
	for _, a := range found {
		boxes, zeros = append(boxes, a.b), append(zeros, a.zeros)
	}
	return boxes, zeros, api.OK
}
