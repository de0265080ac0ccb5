package flow_test

import (
	"testing"

	"eddy/api"
	"eddy/flow"
)

func TestP16_3Add(t *testing.T) {
	d := newDice()
	for range 5000 {
		f, g := d.flow(d.below(6), d.element), d.flow(d.below(6), d.element)
		ought := api.Flow{Elements: append(append([]api.Element{}, f.Elements...), g.Elements...)}
		wantAdd(t, f, g, ought, api.OK)
	}
	wantAdd(t, of(), api.Flow{Elements: []api.Element{}}, of(), api.OK)
	x, y := source(1, 2), stream(3)
	wantAdd(t, of(x), of(y), of(x, y), api.OK) // f's ahead of g's
	wantAdd(t, of(y), of(x), of(y, x), api.OK)
	wantAdd(t, of(x), of(x), of(x, x), api.OK) // nothing is put together
}

func TestP16_3AddOfMany(t *testing.T) {
	d := newDice()
	for _, n := range []int{0, 1, 56, 128, 200, many - 1, many} {
		f, g := d.flow(n, d.element), d.flow(many-n, d.element)
		ought := api.Flow{Elements: append(append([]api.Element{}, f.Elements...), g.Elements...)}
		wantAdd(t, f, g, ought, api.OK)
		wantAdd(t, f, d.flow(many-n+1, d.element), api.Flow{}, oneMore(n))
		wantAdd(t, d.flow(many-n+1, d.element), f, api.Flow{}, oneMore(n))
	}
	wantAdd(t, d.flow(many, d.element), d.flow(many, d.element), api.Flow{}, api.ErrMany)
}

// oneMore is what Add tells of n elements and of so many that they are one too many together: where n is nought, the others alone are too many.
func oneMore(n int) api.Errno {
	if n == 0 {
		return api.ErrFlow
	}
	return api.ErrMany
}

func TestP16_3ConjAndNeg(t *testing.T) {
	d := newDice()
	for i := range 5000 {
		n := d.below(6)
		if i%1000 == 0 {
			n = many
		}
		f := d.flow(n, d.element)
		var mirrored, backward api.Flow
		for _, x := range f.Elements {
			y := x
			y.At, y.Strength = conj(x.At), conj(x.Strength)
			mirrored.Elements = append(mirrored.Elements, y)
			x.Strength = neg(x.Strength)
			backward.Elements = append(backward.Elements, x)
		}
		got, e := flow.Conj(f)
		wantFlow(t, "Conj", got, e, mirrored, api.OK)
		got, e = flow.Conj(got)
		wantFlow(t, "Conj of Conj", got, e, f, api.OK)
		got, e = flow.Neg(f)
		wantFlow(t, "Neg", got, e, backward, api.OK)
		got, e = flow.Neg(got)
		wantFlow(t, "Neg of Neg", got, e, f, api.OK)
	}
}

func TestP16_4Places(t *testing.T) {
	minusBoth := noughts[3]
	for _, c := range []struct {
		f     api.Flow
		ought list
	}{
		{of(), nil},
		{of(stream(1), corner(1, 1, 1), corner(2, 1, 1.5), corner(3, 1, 4)), nil},
		{of(source(1i, 0)), list{1i}}, // whatever its strength
		{of(doublet(1i, 0, 8)), list{1i}},
		{of(corner(1, 1, 0.25), corner(2, 0, 0.9999999999999999), corner(3, 1, 1), corner(4, 1, 1.0000000000000002)), list{1, 2}},
		{of(source(1, 1), corner(1, 1, 2), doublet(1, 1, 1), corner(1, 1, 0.5)), list{1}},
		{of(corner(1, 1, 2), corner(1, 1, 3)), nil},
		{of(source(0, 1), source(minusBoth, 1)), list{0}}, // the first one, with its signs
		{of(source(minusBoth, 1), source(0, 1)), list{minusBoth}},
		{of(corner(noughts[2], 1, 0.5), doublet(0, 1, 1), source(noughts[1], 1)), list{noughts[2]}},
		{of(corner(0, 1, 2), source(minusBoth, 1)), list{minusBoth}}, // a Corner that has a value counts for nothing
		{of(source(complex(1, minusNought), 1), source(1, 1), source(complex(0, -1), 1), source(complex(minusNought, -1), 1)), list{complex(0, -1), complex(1, minusNought)}},
		{of(source(2+1i, 1), corner(1, 1, 0.5), source(1-1i, 1), corner(3, 1, 2), doublet(2, 1, 1)), list{1 - 1i, 1, 2, 2 + 1i}},
		{of(source(1i, 1), source(-1, 1), source(-1i, 1), source(1, 1), source(minusBoth, 1)), list{-1, -1i, minusBoth, 1i, 1}},
		{of(source(farthest, 1), source(-farthest, 1), source(complex(0, farthest), 1), source(complex(-farthest, farthest), 1)), list{-farthest, complex(-farthest, farthest), complex(0, farthest), farthest}},
		{of(source(least, 1), source(0, 1), source(-least, 1)), list{-least, 0, least}}, // near is not like
	} {
		wantPlaces(t, c.f, c.ought, api.OK)
	}
	var all list
	var f api.Flow
	for k := range many {
		all = append(all, complex(float64(k), 1))
		f.Elements = append(f.Elements, source(complex(float64(many-1-k), 1), 1))
	}
	wantPlaces(t, f, all, api.OK)
}

func isSingle(x api.Element) bool {
	return x.Kind == api.Source || x.Kind == api.Doublet || x.Kind == api.Corner && x.Power < 1
}

// placesSteps puts each place where it stands in the row, unless one like it was there ahead.
func placesSteps(f api.Flow) list {
	var l list
	for _, x := range f.Elements {
		k := 0
		for k < len(l) && (real(l[k]) < real(x.At) || real(l[k]) == real(x.At) && imag(l[k]) < imag(x.At)) {
			k++
		}
		if isSingle(x) && (k == len(l) || !like(l[k], x.At)) {
			l = append(l[:k:k], append(list{x.At}, l[k:]...)...)
		}
	}
	return l
}

func TestP16_4PlacesOfMany(t *testing.T) {
	d := newDice()
	for i := range 5000 {
		n := d.below(12)
		if i%500 == 0 {
			n = many
		}
		f := d.flow(n, d.element)
		wantPlaces(t, f, placesSteps(f), api.OK)
	}
}
