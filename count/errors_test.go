package count_test

import (
	"math"
	"testing"

	"eddy/api"
)

// What the chapters say of arguments that may not be.

func isReal(z complex128) bool { return math.Abs(real(z)) <= most && math.Abs(imag(z)) <= most }

// refusalOfPoly is for the nought polynomial too.
func refusalOfPoly(l list) api.Errno {
	if len(l) == 0 || len(l) > degrees+1 || alike(l[len(l)-1], 0) {
		return api.ErrPoly
	}
	for _, c := range l {
		if !isReal(c) {
			return api.ErrPoly
		}
	}
	return api.OK
}

func refusalOfBox(b api.Box) api.Errno {
	for _, x := range []float64{real(b.Low), imag(b.Low), real(b.High), imag(b.High)} {
		if math.IsNaN(x) || math.IsInf(x, 0) {
			return api.ErrBox
		}
	}
	if !(real(b.Low) < real(b.High) && imag(b.Low) < imag(b.High)) {
		return api.ErrBox
	}
	return api.OK
}

func refusalOfPath(path list) api.Errno {
	if len(path) < 3 || len(path) > points {
		return api.ErrMany
	}
	for _, z := range path {
		if !isReal(z) {
			return api.ErrReal
		}
	}
	return api.OK
}

func refusalOfMost(wide float64) api.Errno {
	if wide >= narrow && wide <= most {
		return api.OK
	}
	return api.ErrReal
}

func refusalOfDepth(depth int) api.Errno {
	if depth < 0 || depth > deepest {
		return api.ErrArg
	}
	return api.OK
}

func first(l ...api.Errno) api.Errno {
	for _, e := range l {
		if e != api.OK {
			return e
		}
	}
	return api.OK
}

// Lists that are no polynomial, and the nought polynomial.
func badLists() []list {
	return []list{
		nil, {}, {1, 0}, {0, complex(minusNought, 0)}, {0, 0}, {1, complex(0, minusNought)},
		{complex(none, 0)}, {complex(0, none), 1}, {1, complex(infinite, 0)}, {complex(0, -infinite), 1}, {complex(beyond, 0)}, {1, complex(0, -beyond)},
		filled(degrees+2, 1), make(list, degrees+2),
		{0}, {complex(minusNought, 0)}, {complex(0, minusNought)}, {complex(minusNought, minusNought)},
	}
}

func goodLists() []list {
	return []list{{1}, {complex(0, least)}, {complex(minusNought, -1)}, {1, 0, 1}, {0, 1}, {complex(most, -most)}, power(1, degrees)}
}

// Boxes that may not be, and those without an inside.
func badBoxes() []api.Box {
	return []api.Box{
		{}, of(0, 1, 0, 0), of(0, 0, 0, 1), of(minusNought, 0, 0, 1), of(0, 1, minusNought, 0), of(1, 1, 2, 2), of(-1, -1, -2, 5),
		of(1, 0, 0, 1), of(0, 1, 1, 0), of(1, 0, 1, 0), of(1, math.Nextafter(1, 0), 0, 1),
		of(none, 1, 0, 1), of(0, none, 0, 1), of(0, 1, none, 1), of(0, 1, 0, none), of(none, none, none, none),
		of(-infinite, 1, 0, 1), of(0, infinite, 0, 1), of(0, 1, -infinite, 1), of(0, 1, 0, infinite), of(-infinite, infinite, -infinite, infinite),
	}
}

func goodBoxes() []api.Box {
	return []api.Box{square(2), square(least), square(greatest), of(0, least, 0, least), of(-1, minusNought, -1, 0), of(1, math.Nextafter(1, 2), 0, 1)}
}

var depths = []int{math.MinInt, -2, -1, 0, 1, 8, deepest, deepest + 1, deepest + 2, math.MaxInt}

func lists() []list { return append(badLists(), goodLists()...) }

func boxes() []api.Box { return append(badBoxes(), goodBoxes()...) }

// oughtZeros is P13.1, the errors in their order.
func oughtZeros(l list, b api.Box, depth int) (int, api.Errno) {
	if e := first(refusalOfPoly(l), refusalOfBox(b), refusalOfDepth(depth)); e != api.OK {
		return 0, e
	}
	return zerosSteps(l, b, depth)
}

func oughtBoth(top, bottom list, b api.Box, depth int) (int, api.Errno) {
	if e := first(refusalOfPoly(top), refusalOfPoly(bottom), refusalOfBox(b), refusalOfDepth(depth)); e != api.OK {
		return 0, e
	}
	n, e := zerosSteps(top, b, depth)
	m, f := zerosSteps(bottom, b, depth)
	if e := first(e, f); e != api.OK {
		return 0, e
	}
	return n - m, api.OK
}

func oughtRound(l, path list, depth int) (n, pieces int, e api.Errno) {
	if e := first(refusalOfPoly(l), refusalOfPath(path), refusalOfDepth(depth)); e != api.OK {
		return 0, 0, e
	}
	return roundCall(l, path, depth)
}

func oughtFind(l list, b api.Box, wide float64, depth int) ([]api.Box, []int, api.Errno) {
	if e := first(refusalOfPoly(l), refusalOfBox(b), refusalOfMost(wide), refusalOfDepth(depth)); e != api.OK {
		return nil, nil, e
	}
	k := looks{most: steps}
	return k.findSteps(l, b, wide, depth)
}

// checkZeros and those that follow ask a call, and the chapter's words.
func checkZeros(t *testing.T, l list, b api.Box, depth int) api.Errno {
	t.Helper()
	n, e := oughtZeros(l, b, depth)
	wantZeros(t, l, b, depth, n, e)
	return e
}

func checkBoth(t *testing.T, top, bottom list, b api.Box, depth int) api.Errno {
	t.Helper()
	n, e := oughtBoth(top, bottom, b, depth)
	wantBoth(t, top, bottom, b, depth, n, e)
	return e
}

func checkRound(t *testing.T, l, path list, depth int) api.Errno {
	t.Helper()
	n, pieces, e := oughtRound(l, path, depth)
	wantRound(t, l, path, depth, n, pieces, e)
	return e
}

func checkFind(t *testing.T, l list, b api.Box, wide float64, depth int) api.Errno {
	t.Helper()
	found, zeros, e := oughtFind(l, b, wide, depth)
	wantFind(t, l, b, wide, depth, found, zeros, e)
	return e
}

func TestP13_1Errors(t *testing.T) {
	seen := map[api.Errno]int{}
	for _, l := range lists() {
		for _, b := range boxes() {
			for _, depth := range depths {
				seen[checkZeros(t, l, b, depth)]++
			}
		}
	}
	if len(seen) != 5 {
		t.Errorf("not all errors: %v", seen)
	}
}

// Of two that hold, the one that is looked for first.
func TestP13_1Order(t *testing.T) {
	for _, l := range badLists() {
		wantZeros(t, l, square(2), 8, 0, api.ErrPoly)
		wantZeros(t, l, of(1, 0, 0, 1), 8, 0, api.ErrPoly)
		wantZeros(t, l, square(2), deepest+1, 0, api.ErrPoly)
		wantZeros(t, l, api.Box{}, -1, 0, api.ErrPoly)
	}
	for _, b := range badBoxes() {
		wantZeros(t, list{1}, b, 8, 0, api.ErrBox)
		wantZeros(t, list{1}, b, 0, 0, api.ErrBox)
		wantZeros(t, list{1}, b, -1, 0, api.ErrBox)
		wantZeros(t, list{1}, b, deepest+1, 0, api.ErrBox)
	}
	// A zero on the border is told after all that.
	wantZeros(t, list{-2, 1}, square(2), deepest+1, 0, api.ErrArg)
	wantZeros(t, list{-2, 1}, square(2), -1, 0, api.ErrArg)
	wantZeros(t, list{-2, 1}, square(2), deepest, 0, api.ErrUnsure)
	for _, depth := range []int{0, 1, deepest} {
		wantZeros(t, list{1}, square(2), depth, 0, api.OK)
	}
}

func TestP13_2Errors(t *testing.T) {
	for _, l := range badLists() {
		for _, other := range lists() {
			for _, b := range []api.Box{square(2), {}, of(none, 1, 0, 1)} {
				for _, depth := range []int{-1, 8, deepest + 1} {
					wantBoth(t, l, other, b, depth, 0, api.ErrPoly)
					wantBoth(t, other, l, b, depth, 0, api.ErrPoly)
				}
			}
		}
	}
	for _, b := range badBoxes() {
		for _, depth := range depths {
			wantBoth(t, list{0, 1}, list{1, 0, 1}, b, depth, 0, api.ErrBox)
		}
	}
	for _, depth := range depths {
		checkBoth(t, list{0, 1}, list{1, 0, 1}, square(2), depth)
		checkBoth(t, list{-2, 1}, list{1}, square(2), depth)
		checkBoth(t, list{1}, list{-2, 1}, square(2), depth)
	}
	wantBoth(t, list{-2, 1}, list{1}, square(2), 25, 0, api.ErrArg)
	wantBoth(t, list{-2, 1}, list{1}, square(2), 24, 0, api.ErrUnsure)
	wantBoth(t, list{1}, list{-2, 1}, square(2), 24, 0, api.ErrUnsure)
	wantBoth(t, list{-2, 1}, list{-2, 1}, square(2), 24, 0, api.ErrUnsure)
}

// circling is a path of so many places about nought, none of whose pieces must be halved for the polynomial z.
func circling(n int) list {
	l := make(list, n)
	for i := range l {
		turn := 2 * math.Pi * float64(i) / float64(n)
		l[i] = complex(math.Cos(turn), math.Sin(turn))
	}
	return l
}

func TestP13_3Counts(t *testing.T) {
	for _, n := range []int{0, 1, 2, points + 1, points + 2, 9000} {
		for _, depth := range []int{-1, 8, deepest + 1} {
			wantRound(t, list{0, 1}, circling(n), depth, 0, 0, api.ErrMany)
			wantRound(t, list{0, 1}, filled(n, complex(none, 0)), depth, 0, 0, api.ErrMany)
			wantRound(t, list{0}, circling(n), depth, 0, 0, api.ErrPoly)
		}
	}
	wantRound(t, list{0, 1}, nil, 8, 0, 0, api.ErrMany)
	for _, n := range []int{3, 4, 5, 100, points - 1, points} {
		wantRound(t, list{5}, circling(n), 0, 0, n, api.OK)
		wantRound(t, list{5}, filled(n, 1), 0, 0, n, api.OK)
	}
	for _, n := range []int{12, 100, points - 1, points} {
		wantRound(t, list{0, 1}, circling(n), 0, 1, n, api.OK)
		wantRound(t, list{0, 1}, back(circling(n)), 0, -1, n, api.OK)
	}
}

func TestP13_3Reals(t *testing.T) {
	for _, n := range []int{3, 4, 7, points} {
		for _, i := range []int{0, 1, n / 2, n - 1} {
			for _, x := range []float64{none, infinite, -infinite, beyond, -beyond, greatest, -0x1p41} {
				for _, depth := range []int{-1, 8, deepest + 1} {
					path := circling(n)
					path[i] = complex(x, imag(path[i]))
					wantRound(t, list{5}, path, depth, 0, 0, api.ErrReal)
					path[i] = complex(1, x)
					wantRound(t, list{5}, path, depth, 0, 0, api.ErrReal)
					wantRound(t, list{1, 0}, path, depth, 0, 0, api.ErrPoly)
				}
			}
		}
	}
	wantRound(t, list{0, 1}, corners(square(most)), 0, 1, 4, api.OK)
	wantRound(t, list{0, 1}, corners(of(-most, most, minusNought, most)), 8, 0, 0, api.ErrUnsure)
}

func TestP13_3Errors(t *testing.T) {
	paths := []list{nil, {1}, {1, 2}, {1, 2, 3}, {1, complex(none, 0)}, {1, 2, complex(0, infinite)}, {1, 1, 1}, {-1, 1, 2}, corners(square(2)), circling(points + 1)}
	seen := map[api.Errno]int{}
	for _, l := range lists() {
		for _, path := range paths {
			for _, depth := range depths {
				seen[checkRound(t, l, path, depth)]++
			}
		}
	}
	if len(seen) != 6 {
		t.Errorf("not all errors: %v", seen)
	}
	wantRound(t, list{0, 1}, list{-1, 1, 2}, deepest+1, 0, 0, api.ErrArg)
	wantRound(t, list{0, 1}, list{-1, 1, 2}, -1, 0, 0, api.ErrArg)
	wantRound(t, list{0, 1}, list{-1, 1, 2}, deepest, 0, 0, api.ErrUnsure)
}

func TestP13_4Errors(t *testing.T) {
	wides := []float64{none, infinite, -infinite, 0, minusNought, -1, least, math.Nextafter(narrow, 0), narrow, 1, 5, most, beyond, greatest}
	seen := map[api.Errno]int{}
	for _, l := range [][]complex128{nil, {1, 0}, {0}, {complex(minusNought, minusNought)}, {1}, {-2, 1}, {0, 1}} {
		for _, b := range []api.Box{{}, of(0, 0, 0, 1), of(1, 0, 0, 1), of(none, 1, 0, 1), square(2), square(greatest)} {
			for _, wide := range wides {
				for _, depth := range depths {
					seen[checkFind(t, l, b, wide, depth)]++
				}
			}
		}
	}
	if len(seen) != 6 {
		t.Errorf("not all errors: %v", seen)
	}
	nothing := func(l list, b api.Box, wide float64, depth int, e api.Errno) {
		t.Helper()
		wantFind(t, l, b, wide, depth, nil, nil, e)
	}
	nothing(list{0}, api.Box{}, 0, -1, api.ErrPoly)
	nothing(list{1, 0}, square(2), none, 8, api.ErrPoly)
	nothing(list{1}, api.Box{}, 0, -1, api.ErrBox)
	nothing(list{1}, square(2), 0, -1, api.ErrReal)
	nothing(list{1}, square(2), math.Nextafter(narrow, 0), 8, api.ErrReal)
	nothing(list{1}, square(2), beyond, 25, api.ErrReal)
	nothing(list{-2, 1}, square(2), 1, 25, api.ErrArg)
	nothing(list{-2, 1}, square(2), 1, -1, api.ErrArg)
	nothing(list{-2, 1}, square(2), 1, 24, api.ErrUnsure)
	nothing(list{-2, 1}, square(2), most, 24, api.ErrUnsure)
	nothing(list{1}, square(2), narrow, 0, api.OK)
	nothing(list{1}, square(2), most, 24, api.OK)
}

// Whatever bits a call is handed, it ends, does not panic, and answers what the chapter's words come to.
func TestR1AnyBits(t *testing.T) {
	d := newDice()
	strange := []float64{0, minusNought, 1, -1, least, -least, 2, 0x1p-600, 0x1p600, -0x1p600, greatest, -greatest, most, infinite, none}
	float := func() float64 {
		if d.below(4) == 0 {
			return math.Float64frombits(d.word())
		}
		return strange[d.below(len(strange))]
	}
	number := func() complex128 { return complex(float(), float()) }
	some := func(n int) list {
		l := make(list, d.below(n))
		for i := range l {
			l[i] = number()
		}
		return l
	}
	seen := map[api.Errno]int{}
	for range 30000 {
		b := api.Box{Low: number(), High: number()}
		l, depth := some(4), d.below(30)-2
		if d.below(3) > 0 {
			l = list{complex(d.part(-3, 3), d.part(-3, 3)), d.number(-1074, 40), complex(1, 0)}[d.below(3):]
		}
		if d.below(3) > 0 {
			b = of(-d.part(-1070, 1023), d.part(-1070, 1023), -d.part(-10, 10), d.part(-10, 10))
		}
		seen[checkZeros(t, l, b, depth)]++
		seen[checkBoth(t, l, some(3), b, depth)]++
		seen[checkRound(t, l, some(6), depth)]++
		seen[checkFind(t, l, b, float(), depth)]++
	}
	if seen[api.OK] < 300 || seen[api.ErrUnsure] < 300 {
		t.Errorf("the dice are lame: %v", seen)
	}
}
