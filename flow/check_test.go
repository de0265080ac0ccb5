package flow_test

import (
	"testing"

	"eddy/api"
	"eddy/element"
)

// refused are elements that may not be, with the error of each.
func refused() []struct {
	x api.Element
	e api.Errno
} {
	return []struct {
		x api.Element
		e api.Errno
	}{
		{api.Element{}, api.ErrElement},
		{api.Element{Kind: 5}, api.ErrElement},
		{api.Element{Kind: api.Stream, At: 1}, api.ErrElement},
		{api.Element{Kind: api.Source, Power: 1}, api.ErrElement},
		{doublet(0, 1, 9), api.ErrElement},
		{corner(0, 1, 0.2), api.ErrElement},
		{stream(complex(0, none)), api.ErrReal},
		{source(complex(beyond, 0), 1), api.ErrReal},
		{doublet(0, complex(infinite, 0), 1), api.ErrReal},
		{corner(0, 1, none), api.ErrReal},
	}
}

// with is so many Streams, and among them x, with the number k.
func with(n, k int, x api.Element) api.Flow {
	f := repeated(n, stream(1))
	f.Elements[k] = x
	return f
}

func TestP16_1Check(t *testing.T) {
	wantCheck(t, api.Flow{}, api.OK)
	wantCheck(t, api.Flow{Elements: []api.Element{}}, api.OK)
	wantCheck(t, of(stream(1), source(1i, 2), doublet(1, 1, 8), corner(1, 1i, 0.25)), api.OK)
	for _, x := range []api.Element{stream(0), source(0, 0), doublet(0, 1, 1), corner(complex(farthest, -farthest), complex(-farthest, farthest), 4)} {
		wantCheck(t, of(x), api.OK)
		wantCheck(t, repeated(many, x), api.OK)
		wantRefused(t, repeated(many+1, x), api.ErrFlow)
	}
	wantRefused(t, api.Flow{Elements: make([]api.Element, 2*many)}, api.ErrFlow)
}

// More elements than may be count ahead of what is wrong with them.
func TestP16_1TooManyFirst(t *testing.T) {
	for _, r := range refused() {
		for _, k := range []int{0, 100, many} {
			wantRefused(t, with(many+1, k, r.x), api.ErrFlow)
		}
		wantRefused(t, repeated(many+1, r.x), api.ErrFlow)
	}
}

func TestP16_1ElementsThatMayNotBe(t *testing.T) {
	for _, r := range refused() {
		wantRefused(t, of(r.x), r.e)
		for _, k := range []int{0, 1, 100, many - 2, many - 1} {
			wantRefused(t, with(many, k, r.x), r.e)
		}
	}
}

func TestP16_1FirstError(t *testing.T) {
	for _, a := range refused() {
		for _, b := range refused() {
			wantRefused(t, of(a.x, b.x), a.e)
			wantRefused(t, of(stream(1), a.x, source(0, 1), b.x, stream(2)), a.e)
			f := with(many, 7, a.x)
			f.Elements[many-1] = b.x
			wantCheck(t, f, a.e)
		}
	}
}

// What is wrong with elements counts ahead of a place without a value, ahead of a broken power, too.
func TestP16_1AheadOfAllElse(t *testing.T) {
	for _, r := range refused() {
		wantRefused(t, of(source(0, 1), r.x), r.e)
		wantRefused(t, of(corner(0, 1, 0.5), r.x), r.e)
		wantRefused(t, of(r.x, corner(0, 1, 0.5)), r.e)
	}
}

func TestP16_1OfMany(t *testing.T) {
	d := newDice()
	l := refused()
	for range 3000 {
		f := d.flow(d.below(6), d.element)
		wantCheck(t, f, api.OK)
		for range d.below(4) {
			k := d.below(len(f.Elements) + 1)
			f.Elements = append(f.Elements[:k:k], append([]api.Element{l[d.below(len(l))].x}, f.Elements[k:]...)...)
		}
		ought := api.OK
		for _, x := range f.Elements {
			if ought == api.OK {
				ought = element.Check(x)
			}
		}
		wantCheck(t, f, ought)
		if ought != api.OK {
			wantRefused(t, f, ought)
		}
	}
}

// Both flows are looked at, from the left, ahead of how many elements they have together.
func TestP16_1BothFlows(t *testing.T) {
	all := []struct {
		f api.Flow
		e api.Errno
	}{{repeated(many+1, stream(1)), api.ErrFlow}}
	for _, r := range refused() {
		all = append(all, struct {
			f api.Flow
			e api.Errno
		}{of(r.x), r.e}, struct {
			f api.Flow
			e api.Errno
		}{with(many, many-1, r.x), r.e})
	}
	for _, a := range all {
		for _, b := range all {
			wantAdd(t, a.f, b.f, api.Flow{}, a.e)
		}
		wantAdd(t, repeated(many, stream(1)), a.f, api.Flow{}, a.e)
		wantAdd(t, a.f, repeated(many, stream(1)), api.Flow{}, a.e)
	}
}
