package count_test

import (
	"math"
	"testing"

	"eddy/api"
	"eddy/box"
)

// wild is a polynomial with a depth, of one kind or another.
func (d *dice) wild() (l list, depth int) {
	switch d.below(4) {
	case 0:
		l = d.polynomial(5, func() complex128 { return d.whole(3) })
	case 1:
		l = d.polynomial(9, func() complex128 { return d.number(-3, 3) })
	case 2:
		l = d.polynomial(13, func() complex128 { return d.number(-1, 1) })
	default:
		l = d.polynomial(4, func() complex128 { return d.number(-20, 20) })
	}
	return l, d.below(deepest + 1)
}

func TestP13_1Steps(t *testing.T) {
	d := newDice()
	seen := map[api.Errno]int{}
	told := map[int]int{}
	for range 3000 {
		l, depth := d.wild()
		for _, b := range []api.Box{d.box(2), square(float64(1 + d.below(3)))} {
			seen[checkZeros(t, l, b, depth)]++
			n, _ := zerosSteps(l, b, depth)
			told[n]++
		}
	}
	if seen[api.OK] < 2000 || seen[api.ErrUnsure] < 300 || len(told) < 8 {
		t.Errorf("the dice are lame: %v, %v", seen, told)
	}
}

// Numbers that lie all on one side of nought, on two, on an axis: nothing must be halved.
func TestP13_1Leans(t *testing.T) {
	for _, c := range []complex128{1, 1 + 1i, 1i, -1 + 1i, -1, -1 - 1i, -1i, 1 - 1i, complex(least, 0), complex(minusNought, -least), complex(-least, least), most} {
		for _, b := range goodBoxes() {
			wantZeros(t, list{c}, b, 0, 0, api.OK)
		}
		wantRound(t, list{c}, corners(square(2)), 0, 0, 4, api.OK)
		wantRound(t, list{c}, list{1, 1, 1}, 0, 0, 3, api.OK)
	}
	// In each of eight boxes about nought the polynomial z leans one way or two, and all of them together go round it.
	way := list{3 - 1i, 3 + 1i, 1 + 3i, -1 + 3i, -3 + 1i, -3 - 1i, -1 - 3i, 1 - 3i}
	for i := range way {
		begun := append(append(list{}, way[i:]...), way[:i]...)
		wantRound(t, list{0, 1}, begun, 0, 1, 8, api.OK)
		wantRound(t, list{0, 1}, back(begun), 0, -1, 8, api.OK)
		wantRound(t, list{0, 1i}, begun, 0, 1, 8, api.OK)
		wantRound(t, list{0, -1}, begun, 0, 1, 8, api.OK)
		wantRound(t, list{0, -1i}, begun, 0, 1, 8, api.OK)
		wantRound(t, list{0, 1 + 1i}, begun, 0, 1, 8, api.OK)
		wantRound(t, list{0, 1}, append(begun, begun...), 0, 2, 16, api.OK)
	}
	for _, r := range []struct{ x, y float64 }{{1, 1}, {1, -2}, {-2, 1}, {-2, -2}, {1, -0.5}, {-0.5, 1}, {-2, -0.5}, {-0.5, -2}} {
		wantZeros(t, list{0, 1}, of(r.x, r.x+1, r.y, r.y+1), 0, 0, api.OK)
	}
	wantRound(t, list{0, 1}, list{1, 1 + 1i, 1i}, 0, 0, 0, api.ErrUnsure)
	wantRound(t, list{0, 1}, list{1, 1 + 1i, 1i}, 1, 0, 5, api.OK)
}

// An enclosure that ends at nought leans nowhere. Of the polynomial z its ends are 4 of the least floats farther out than the places.
func TestP13_1EndAtNought(t *testing.T) {
	for _, turn := range []complex128{1, 1i, -1, -1i} {
		l := list{0, turn}
		near, far := list{}, list{}
		for _, z := range []complex128{complex(4*least, -1), complex(4*least, 1), 2} {
			near = append(near, z)
			far = append(far, z+complex(least, 0))
		}
		for _, depth := range []int{0, 3, deepest} {
			wantRound(t, l, near, depth, 0, 0, api.ErrUnsure)
			wantRound(t, l, far, depth, 0, 3, api.OK)
		}
		around, _ := box.Make(near[0], near[1])
		values, _ := box.Poly(l, around)
		if real(values.Low) != 0 && imag(values.Low) != 0 && real(values.High) != 0 && imag(values.High) != 0 {
			t.Errorf("%x: no end is nought", values)
		}
	}
}

func TestP13_1Border(t *testing.T) {
	b := of(-1, 3, -2, 1)
	for _, z := range []complex128{-1 - 2i, 3 - 2i, 3 + 1i, -1 + 1i, -2i, 1 - 2i, 0.3 - 2i, 3, 3 + 0.7i, 1i, 2.9 + 1i, -1, -1 - 0.1i, complex(-1, minusNought), complex(math.Nextafter(3, 0), -2)} {
		for depth := range deepest + 1 {
			wantZeros(t, list{-z, 1}, b, depth, 0, api.ErrUnsure)
			wantZeros(t, with(1, z, 0), b, depth, 0, api.ErrUnsure)
			wantZeros(t, with(1i, z, z), b, depth, 0, api.ErrUnsure)
			wantBoth(t, list{-z, 1}, list{-z, 1}, b, depth, 0, api.ErrUnsure)
			wantRound(t, list{-z, 1}, corners(b), depth, 0, 0, api.ErrUnsure)
			wantFind(t, list{-z, 1}, b, 8, depth, nil, nil, api.ErrUnsure)
		}
	}
}

// Just beside the border a zero counts, or does not: as soon as the pieces are small enough.
func TestP13_1Beside(t *testing.T) {
	off := func(k int) float64 { return math.Ldexp(1, -k) }
	for k := 1; k <= 30; k++ {
		for _, r := range []struct {
			z     complex128
			n     int
			early bool // it may be told of pieces that are greater than that
		}{
			{complex(2-off(k), 0.3), 1, false}, {complex(2+off(k), 0.3), 0, false},
			{complex(-2+off(k), 0.3), 1, false}, {complex(-2-off(k), 0.3), 0, false},
			{complex(0.3, 2-off(k)), 1, false}, {complex(0.3, 2+off(k)), 0, false},
			{complex(0.3, -2+off(k)), 1, false}, {complex(0.3, -2-off(k)), 0, false},
			{complex(2-off(k), 2-off(k)), 1, false}, {complex(-2+off(k), -2+off(k)), 1, false},
			{complex(2+off(k), 2+off(k)), 0, true}, {complex(2-off(k), 2+off(k)), 0, true},
		} {
			// The factor turns the values, so that no straight side leans by itself.
			l := list{-r.z * (1 + 2i), 1 + 2i}
			for depth := range deepest + 1 {
				checkZeros(t, l, square(2), depth)
				if depth >= k+4 {
					wantZeros(t, l, square(2), depth, r.n, api.OK)
				}
				if depth <= k-3 && !r.early {
					wantZeros(t, l, square(2), depth, 0, api.ErrUnsure)
				}
			}
		}
	}
}

// wantRefused tells that a piece has no enclosure.
func wantRefused(t *testing.T, l list, a, b complex128) {
	t.Helper()
	around, _ := box.Make(a, b)
	if _, e := box.Poly(l, around); e != api.ErrPlace {
		t.Errorf("Poly(%x, %x): %d", l, around, int(e))
	}
}

// A piece whose enclosure passes all floats is halved like any other one.
func TestP13_1Refused(t *testing.T) {
	far := 0x1.e5p511
	wide := of(-far, far, -far/2, far/2)
	wantRefused(t, list{0, 0, 1}, wide.Low, complex(far, -far/2))
	for depth := range 3 {
		wantZeros(t, list{0, 0, 1}, wide, depth, 0, api.ErrUnsure)
	}
	for depth := 3; depth <= deepest; depth++ {
		wantZeros(t, list{0, 0, 1}, wide, depth, 2, api.OK)
		wantZeros(t, list{5 - 3i, 0, 1}, wide, depth, 2, api.OK)
	}
	wantBoth(t, list{0, 0, 1}, list{0, 1}, wide, 8, 1, api.OK)

	// Round's places are not that far out, but powers of them are.
	high := power(0x1p20, 25)
	out := list{complex(most, -most/2), complex(most, most/2), most / 4}
	wantRefused(t, high, out[0], out[1])
	wantRound(t, high, out, deepest, 0, 8793, api.OK)

	// Where the values themselves pass all floats, no halving helps.
	for _, depth := range []int{0, 3, deepest} {
		wantZeros(t, list{0, 0, 1}, square(0x1p600), depth, 0, api.ErrUnsure)
		wantZeros(t, list{0, 1}, square(greatest), depth, 0, api.ErrUnsure)
		wantZeros(t, list{1}, square(greatest), depth, 0, api.OK)
		wantZeros(t, list{0, 1}, square(0x1p1023), depth, 1, api.OK)
		wantRound(t, power(1, 26), corners(square(most)), depth, 0, 0, api.ErrUnsure)
		wantFind(t, list{0, 0, 1}, square(0x1p600), 1, depth, nil, nil, api.ErrUnsure)
	}
	// And where they are next to nought none does either.
	wantZeros(t, list{0, 0, 1}, square(0x1p-600), deepest, 0, api.ErrUnsure)
	wantZeros(t, list{0, 1}, square(least), deepest, 0, api.ErrUnsure)
}

// Halves are taken first, their sum then: the other way round the middles would be infinite here.
func TestP13_1FarMiddles(t *testing.T) {
	l := list{0, complex(-0x1p-50, -0x1p-50), complex(0x1p-1073, 0)} // its zeros are nought, and the middle of the box
	b := of(0x1.8p1022, 0x1.4p1023, 0x1.8p1022, 0x1.4p1023)
	wantZeros(t, l, b, 0, 0, api.ErrUnsure)
	wantZeros(t, l, b, 8, 1, api.OK)
	wantFind(t, l, b, 1, 8, nil, nil, api.ErrUnsure)
}

// A piece that has nothing between its ends is not halved.
func TestP13_1LikeMiddles(t *testing.T) {
	next := math.Nextafter(1, 2)
	third := math.Nextafter(next, 2)
	for _, b := range []api.Box{of(1, next, 1, next), of(1, third, 1, third), of(1, 2, 1, next), of(0, least, 0, least), of(minusNought, 3*least, minusNought, 3*least), of(-least, least, -least, least), of(0, least, 0, 1)} {
		for _, depth := range []int{0, 1, 2, 3, deepest} {
			wantZeros(t, list{-b.Low, 1}, b, depth, 0, api.ErrUnsure)
			wantZeros(t, list{-b.High, 1}, b, depth, 0, api.ErrUnsure)
			checkZeros(t, list{-complex(real(b.Low), imag(b.High)), 1i}, b, depth)
			checkRound(t, list{-b.Low, 1}, corners(b), depth)
		}
	}
	for _, z := range []complex128{0, 1, complex(minusNought, 0), complex(least, -least), 1 - 1i} {
		wantRound(t, list{-z, 1}, list{z, z, z}, deepest, 0, 0, api.ErrUnsure)
		wantRound(t, list{-z, 1}, list{z, z, z}, 0, 0, 0, api.ErrUnsure)
		wantRound(t, list{-z, 1}, list{3, z, z}, deepest, 0, 0, api.ErrUnsure)
	}
	wantRound(t, list{0, 1}, list{complex(0, minusNought), complex(minusNought, 0), 0}, deepest, 0, 0, api.ErrUnsure)
	wantRound(t, list{1, 1}, list{complex(0, minusNought), complex(minusNought, 0), 0}, 0, 0, 3, api.OK)
}

// full is the polynomial of a zero, twice, so far out that its enclosures are wide: about it a walk takes many pieces.
func full(a float64) list { return with(1, complex(a, 2*a), complex(a, 2*a)) }

// Boxes whose borders take just MaxSteps pieces, and two more (over four sides one more there is not).
func fullWalks() []many {
	return []many{
		{full(508), of(506.953125, 508.875, 1015.140625, 1016.8125), steps},
		{full(515), of(514.171875, 515.78125, 1029.140625, 1030.984375), steps},
		{full(532), of(530.984375, 533.09375, 1063.203125, 1064.875), steps + 2},
		{full(473), of(472.109375, 473.875, 945.1875, 946.90625), steps + 2},
	}
}

// many is a polynomial and a box, with how many pieces all walks take.
type many struct {
	l      list
	b      api.Box
	pieces int
}

func TestP13_1JustSoMany(t *testing.T) {
	for _, r := range fullWalks() {
		k := looks{most: 2 * steps}
		if n, sure := k.roundSteps(r.l, corners(r.b), deepest); n != 2 || !sure || k.done != r.pieces {
			t.Fatalf("%x: %d, %v, %d pieces", r.b, n, sure, k.done)
		}
		n, pieces, e := 2, r.pieces, api.OK
		if r.pieces > steps {
			n, pieces, e = 0, 0, api.ErrUnsure
		}
		wantZeros(t, r.l, r.b, deepest, n, e)
		wantRound(t, r.l, corners(r.b), deepest, n, pieces, e)
	}
}

// Each of both walks has its own pieces.
func TestP13_2JustSoMany(t *testing.T) {
	for _, r := range fullWalks() {
		n, e := 2, api.OK
		if r.pieces > steps {
			n, e = 0, api.ErrUnsure
		}
		wantBoth(t, r.l, list{1}, r.b, deepest, n, e)
		wantBoth(t, list{1}, r.l, r.b, deepest, -n, e)
		wantBoth(t, r.l, r.l, r.b, deepest, 0, e)
	}
}

// One piece more is looked at where a place stands once more.
func TestP13_3JustSoMany(t *testing.T) {
	for _, r := range fullWalks() {
		for more := range 4 {
			path := append(corners(r.b), filled(more, corners(r.b)[3])...)
			if r.pieces+more <= steps {
				wantRound(t, r.l, path, deepest, 2, r.pieces+more, api.OK)
			} else {
				wantRound(t, r.l, path, deepest, 0, 0, api.ErrUnsure)
			}
		}
	}
	// Back and forth about nought: from p to q it takes 3 pieces, from s to r 5, from q to s and from r to p one.
	p, q, r, s := 2-1i, -1+2i, 5-1i, -1+0.5i
	var way list
	for range 1000 {
		way = append(way, p, q)
	}
	for range 1039 {
		way = append(way, s, r)
	}
	wantRound(t, list{0, 1}, way, 2, 0, steps, api.OK)
	wantRound(t, list{0, 1}, way, deepest, 0, steps, api.OK)
	wantRound(t, list{0, 1}, way[1:], deepest, 0, steps-1, api.OK) // from r to q it takes 3
	wantRound(t, list{0, 1}, way, 1, 0, 0, api.ErrUnsure)
	wantRound(t, list{0, 1}, append(way, r), deepest, 0, 0, api.ErrUnsure)
	wantRound(t, list{0, 1}, append(list{p}, way...), deepest, 0, 0, api.ErrUnsure)
}

func TestP13_3Steps(t *testing.T) {
	d := newDice()
	seen := map[api.Errno]int{}
	for range 1500 {
		l, depth := d.wild()
		place := func() complex128 { return d.number(-3, 2) }
		if d.below(2) == 0 {
			place = func() complex128 { return d.whole(2) }
		}
		path := make(list, 3+d.below(9))
		for i := range path {
			path[i] = place()
		}
		seen[checkRound(t, l, path, depth)]++
		n, pieces, e := oughtRound(l, path, depth)
		wantRound(t, l, back(path), depth, -n, pieces, e)
	}
	if seen[api.OK] < 500 || seen[api.ErrUnsure] < 100 {
		t.Errorf("the dice are lame: %v", seen)
	}
}

// Among the least floats halves are rounded, too.
func TestP13_3Least(t *testing.T) {
	d := newDice()
	seen := map[api.Errno]int{}
	for range 5000 {
		l := list{d.whole(99) * 0x1p-1060, d.whole(3) * most / 4}
		if l[1] == 0 {
			continue
		}
		path := make(list, 3+d.below(4))
		for i := range path {
			path[i] = d.whole(9) * least
		}
		seen[checkRound(t, l, path, d.below(8))]++
	}
	if seen[api.OK] < 500 || seen[api.ErrUnsure] < 500 {
		t.Errorf("the dice are lame: %v", seen)
	}
}

func TestP13_3Ways(t *testing.T) {
	left := corners(square(2))
	for _, r := range []struct {
		name            string
		l, path         list
		depth           int
		ought, oughtAll int
	}{
		{"to the left", list{0, 1}, left, 0, 1, 4},
		{"to the right", list{0, 1}, back(left), 0, -1, 4},
		{"about no zero", list{0, 1}, list{1, 2, 3}, 0, 0, 3},
		{"there and back", list{0, 1}, list{1, 2i, 3, 2i}, 2, 0, 12},
		{"twice", list{0, 1}, append(append(list{}, left...), left...), 0, 2, 8},
		{"once to the left, once to the right", list{0, 1}, append(append(list{}, left...), -2-2i, -2+2i, 2+2i, 2-2i), 0, 0, 8},
		{"askew", list{0, 1}, list{-1i, 1, 1i, -1}, 2, 1, 12},
		{"a number", list{5}, left, 0, 0, 4},
		{"a place that is given twice", list{0, 1}, list{-2 - 2i, 2 - 2i, 2 - 2i, 2 + 2i, -2 + 2i}, 0, 1, 5},
		{"a zero on the right side of its box alone", list{-3, 1}, left, 0, 0, 4},
	} {
		n, pieces, e := oughtRound(r.l, r.path, r.depth)
		if n != r.ought || pieces != r.oughtAll || e != api.OK {
			t.Errorf("%s: %d, %d, %d by steps", r.name, n, pieces, int(e))
		}
		wantRound(t, r.l, r.path, r.depth, r.ought, r.oughtAll, api.OK)
	}
}

func TestP13_2Steps(t *testing.T) {
	d := newDice()
	seen := map[api.Errno]int{}
	told := map[int]int{}
	for range 1500 {
		top, depth := d.wild()
		bottom, _ := d.wild()
		b := square(float64(1 + d.below(4)))
		seen[checkBoth(t, top, bottom, b, depth)]++
		n, e := oughtBoth(top, bottom, b, depth)
		told[n]++
		m, f := oughtBoth(bottom, top, b, depth)
		if m != -n || e != f {
			t.Errorf("%x over %x: %d, turned over %d", top, bottom, n, m)
		}
	}
	if seen[api.OK] < 500 || seen[api.ErrUnsure] < 100 || len(told) < 9 {
		t.Errorf("the dice are lame: %v, %v", seen, told)
	}
}
