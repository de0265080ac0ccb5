package schwarz_test

import (
	"math"
	"testing"

	"eddy/api"
	"eddy/schwarz"
)

// The rule's nodes and weights.
func rule() (p, far, q, near float64) {
	return math.Float64frombits(0x3feb8e6dbcf63985), math.Float64frombits(0x3fd64340f7e7b66b), math.Float64frombits(0x3fd5c23fd9dd3dfc), math.Float64frombits(0x3fe4de5f840c24ca)
}

func wrongPieces() []int { return []int{0, -1, math.MinInt, steps + 1, math.MaxInt} }

func TestP19_3ErrorsOfTheMap(t *testing.T) {
	for _, c := range wrong() {
		for _, z := range []complex128{1i, complex(none, 0), -1i} {
			wantBetween(t, c.shape, z, 2i, 1, 0, c.e)
			wantBetween(t, c.shape, 2i, z, 0, 0, c.e)
		}
	}
}

func TestP19_3ErrorsOfPlaces(t *testing.T) {
	s := triangle()
	for _, pieces := range append(wrongPieces(), 1, steps) {
		for _, z := range noPlaces {
			wantBetween(t, s, z, 2i, pieces, 0, api.ErrReal)
			wantBetween(t, s, 2i, z, pieces, 0, api.ErrReal)
			wantBetween(t, s, z, -2i, pieces, 0, api.ErrReal)
			wantBetween(t, s, -2i, z, pieces, 0, api.ErrPlace) // from is asked first
		}
		for _, z := range lowPlaces {
			wantBetween(t, s, z, 2i, pieces, 0, api.ErrPlace)
			wantBetween(t, s, 2i, z, pieces, 0, api.ErrPlace)
			wantBetween(t, s, z, complex(none, 0), pieces, 0, api.ErrPlace)
			wantBetween(t, s, complex(none, 0), z, pieces, 0, api.ErrReal)
		}
	}
}

func TestP19_3ErrorsOfPieces(t *testing.T) {
	s := triangle()
	for _, pieces := range wrongPieces() {
		wantBetween(t, s, 1i, 2i, pieces, 0, api.ErrArg)
		wantBetween(t, s, 1i, 1i, pieces, 0, api.ErrArg)
		wantBetween(t, s, -1, -1, pieces, 0, api.ErrArg) // ahead of what comes up while working
	}
}

// mustBetween is the way between, where there is one.
func mustBetween(t *testing.T, s shape, from, to complex128, pieces int) complex128 {
	t.Helper()
	w, e := schwarz.Between(s.at, s.angles, from, to, pieces)
	if e != api.OK {
		t.Fatalf("Between of %x, %x, %x, %d: %d", s, from, to, pieces, int(e))
	}
	return w
}

func TestP19_3Pieces(t *testing.T) {
	s, from, to := triangle(), -0.5+0.5i, 0.25+0.125i
	finest := mustBetween(t, s, from, to, steps)
	wantBetween(t, s, from, to, steps, first(betweenSteps(s, from, to, steps)), api.OK)
	off := infinite
	for _, pieces := range []int{1, 2, 3, 5, 9} {
		w := mustBetween(t, s, from, to, pieces)
		wantBetween(t, s, from, to, pieces, first(betweenSteps(s, from, to, pieces)), api.OK)
		if l := length(w - finest); !(l < off) {
			t.Errorf("%d pieces are %v off, after %v", pieces, l, off)
		} else {
			off = l
		}
	}
	if off > 1e-6 {
		t.Errorf("nine pieces are %v off", off)
	}
}

func first(z complex128, _ api.Errno) complex128 { return z }

func TestP19_3SamePlace(t *testing.T) {
	for _, pieces := range []int{1, 2, 3, steps} {
		for _, z := range []complex128{1i, 0.25, complex(0.25, minusNought), complex(farthest, farthest), 3 + 4i} {
			if w := mustBetween(t, triangle(), z, z, pieces); !like(w, 0) {
				t.Errorf("Between of %v and itself: %x", z, w)
			}
		}
		for _, z := range []complex128{-1, 0, complex(1, minusNought)} { // nought times what is infinite
			wantBetween(t, triangle(), z, z, pieces, 0, api.ErrPlace)
		}
		wide := shape{floats{-1, 0, 1, 2}, floats{0.25, 1.5, 0.125, 0.125}}
		if w := mustBetween(t, wide, 0, 0, pieces); !like(w, 0) {
			t.Errorf("Between of a wide corner and itself: %x", w)
		}
	}
}

// Noughts' signs of from and to come out at the end: right of all corners all factors have minus noughts.
func TestP19_3MinusNoughts(t *testing.T) {
	s, m := square(0, 1, 2, 3), minusNought
	for _, c := range []struct{ from, to, told float64 }{{0, 0, 0}, {m, m, 0}, {m, 0, 0}, {0, m, m}} {
		w := mustBetween(t, s, complex(5, c.from), complex(6, c.to), 1)
		if !sameFloats(imag(w), c.told) || real(w) <= 0 {
			t.Errorf("from %v to %v: %x", c.from, c.to, w)
		}
		back := mustBetween(t, s, complex(6, c.from), complex(5, c.to), 1)
		wantBetween(t, s, complex(6, c.from), complex(5, c.to), 1, first(betweenSteps(s, complex(6, c.from), complex(5, c.to), 1)), api.OK)
		if real(back) != -real(w) {
			t.Errorf("back from %v to %v: %x", c.from, c.to, back)
		}
	}
}

// Between the least floats above nought steps are rounded so far that a node falls below the line: its sign counts for nothing.
func TestP19_3NodesBelowTheLine(t *testing.T) {
	s := triangle()
	h := -3 * least / 2
	if m := 3*least + 1.5*h; m != 0 || h != -2*least {
		t.Fatalf("the second middle is at %x, by the step %x", m, h)
	}
	from, to := complex(-2, 3*least), complex(-1.5, 0)
	w := mustBetween(t, s, from, to, 2)
	wantBetween(t, s, from, to, 2, first(betweenSteps(s, from, to, 2)), api.OK)
	if line := mustBetween(t, s, -2, -1.5, 2); length(w-line) > 1e-15 || length(w) < 0.1 {
		t.Errorf("%x, but %x along the line", w, line)
	}
	if from, to = complex(-2, minusNought), complex(-1.5, 3*least); !isFinite(mustBetween(t, s, from, to, 2)) {
		t.Errorf("not finite")
	}
}

// From -1 to 1 in one piece the nodes are places of their own bits: a sharp corner there has no slope, one beside it has.
func TestP19_3BitsOfNodes(t *testing.T) {
	p, _, q, _ := rule()
	for _, node := range []float64{-p, -q, q, p} {
		for _, c := range []struct {
			place float64
			e     api.Errno
		}{{node, api.ErrPlace}, {math.Nextafter(node, 2), api.OK}, {math.Nextafter(node, -2), api.OK}} {
			s := shape{floats{-3, -2, c.place, 2}, floats{0.75, 0.75, 0.25, 0.25}}
			w, e := betweenSteps(s, -1, 1, 1)
			if e != c.e {
				t.Errorf("the steps with a corner at %x: %d", c.place, int(e))
			}
			wantBetween(t, s, -1, 1, 1, w, c.e)
			s.angles = floats{0.25, 0.25, 1.25, 0.25}
			if !isFinite(mustBetween(t, s, -1, 1, 1)) {
				t.Errorf("a wide corner at %x", c.place)
			}
		}
	}
}

// Where all nodes but one are wide corners, whose slope is nought, one weight alone is left.
func TestP19_3BitsOfWeights(t *testing.T) {
	p, far, q, near := rule()
	nodes, weights := floats{-p, -q, q, p}, floats{far, near, near, far}
	for i, node := range nodes {
		s := shape{angles: floats{1.25, 1.25, 1.25, 0.125, 0.0625, 0.0625}}
		for j, other := range nodes {
			if j != i {
				s.at = append(s.at, other)
			}
		}
		s.at = append(s.at, 2, 3, 4)
		told := scale(mustSlope(t, s, complex(node, 0)), weights[i])
		if w := mustBetween(t, s, -1, 1, 1); !like(w, told) || told == 0 {
			t.Errorf("the weight %d: %x, not %x", i, w, told)
		}
	}
}

// The four are added from the first node to the last: in any other order the last bits would be other ones.
func TestP19_3OrderOfNodes(t *testing.T) {
	p, far, q, near := rule()
	d, backward, pairs, within := newDice(), 0, 0, 0
	for range 300 {
		s := shape{floats{-3, -2, 2, 3}, d.bends(4)}
		a, b := scale(mustSlope(t, s, complex(-p, 0)), far), scale(mustSlope(t, s, complex(-q, 0)), near)
		e, f := scale(mustSlope(t, s, complex(q, 0)), near), scale(mustSlope(t, s, complex(p, 0)), far)
		w := mustBetween(t, s, -1, 1, 1)
		if !like(w, add(add(add(a, b), e), f)) {
			t.Errorf("Between of %v: %x", s, w)
		}
		if !like(w, add(add(add(f, e), b), a)) {
			backward++
		}
		if !like(w, add(add(add(a, f), b), e)) {
			pairs++
		}
		if !like(w, add(add(add(b, e), a), f)) {
			within++
		}
	}
	if backward < 30 || pairs < 30 || within < 30 {
		t.Errorf("the order is seen %d, %d and %d times", backward, pairs, within)
	}
}

// Along the line, and through corners, which are at no node of so many pieces.
func TestP19_3AlongTheLine(t *testing.T) {
	s := triangle()
	for _, c := range []struct {
		from, to complex128
		pieces   int
	}{{-3, 3, 1}, {-3, 3, 7}, {3, -3, 2}, {-1, 1, 1}, {-1, 0, 3}, {0, -1, 3}, {-2, -1, 5}, {complex(-farthest, 0), complex(farthest, 0), 1}, {complex(-farthest, farthest), complex(farthest, 0), steps}} {
		wantBetween(t, s, c.from, c.to, c.pieces, first(betweenSteps(s, c.from, c.to, c.pieces)), api.OK)
		mustBetween(t, s, c.from, c.to, c.pieces)
	}
}

// A step that no float tells apart from nought leaves all nodes where from is: at a corner.
func TestP19_3NodesAtCorners(t *testing.T) {
	next := math.Nextafter(1, 2)
	s := shape{floats{-1, 1, next}, floats{0.5, 0.25, 0.25}}
	for _, pieces := range []int{1, 2, 9} {
		wantBetween(t, s, 1, complex(next, 0), pieces, 0, api.ErrPlace)
		wantBetween(t, s, complex(next, 0), 1, pieces, 0, api.ErrPlace)
	}
}

// Each slope is finite, but their sum, the way that it is taken along, or all pieces together are not.
func TestP19_3BeyondAllFloats(t *testing.T) {
	p, _, _, _ := rule()
	tiny := shape{floats{0, 0x1p-600, 0x1p-599}, floats{0.5, 0.25, 0.25}}
	y := 0x1p-511
	// One node is above the corners, so near that the slope there is about 2^1022, and the way is 2^40 long.
	from := complex(p*0x1p39-0x1p39, y)
	to := complex(p*0x1p39+0x1p39, y)
	if w := mustSlope(t, tiny, complex(0, y)); length(w) < 0x1p1020 {
		t.Fatalf("the slope %x", w)
	}
	wantBetween(t, tiny, from, to, 1, first(betweenSteps(tiny, from, to, 1)), api.ErrPlace)
	wantBetween(t, tiny, complex(0, y), complex(0, y), 1, first(betweenSteps(tiny, complex(0, y), complex(0, y), 1)), api.OK)
	wantBetween(t, tiny, complex(0, 0x1p-512), complex(0, 0x1p-512), 1, 0, api.ErrPlace)
}
