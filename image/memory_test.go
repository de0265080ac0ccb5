package image_test

import (
	"testing"

	"eddy/api"
	"eddy/image"
)

const spare = 300

var strange = api.Element{Kind: 77, At: 7 - 7i, Strength: 7 + 7i, Power: 7}

// roomy is a list with spare room, in which something stands.
func roomy[T any](l []T, with T) []T {
	n := len(l)
	out := append(make([]T, 0, n+spare), l...)
	for range spare {
		out = append(out, with)
	}
	return out[:n]
}

// untouched tells whether a roomy list is what it was made of.
func untouched[T any](roomy, l []T, with T, same func(a, b T) bool) bool {
	roomy = roomy[:len(l)+spare]
	for i := range roomy {
		ought := with
		if i < len(l) {
			ought = l[i]
		}
		if !same(roomy[i], ought) {
			return false
		}
	}
	return true
}

// spoil writes over all that a list has room for.
func spoil[T any](l []T, with T) {
	l = l[:cap(l)]
	for i := range l {
		l[i] = with
	}
}

// mayStand moves elements where they are above the real numbers and far from nought.
func (d *dice) mayStand() api.Element {
	x := d.element()
	if x.Kind != api.Stream {
		x.At = complex(d.whole(9), 3+float64(d.below(9)))
	}
	return x
}

// both are a flow's answers beside a wall and a circle.
func both(f api.Flow) [2]api.Flow {
	g, _ := image.Wall(f, 0, 2)
	h, _ := image.Circle(f, about(0, 1))
	return [2]api.Flow{g, h}
}

func copied(l [2]api.Flow) (out [2]api.Flow) {
	for i := range l {
		out[i].Elements = append([]api.Element{}, l[i].Elements...)
	}
	return out
}

func wantBoth(t *testing.T, when string, got, ought [2]api.Flow) {
	t.Helper()
	for i := range got {
		if !sameFlows(got[i], ought[i]) {
			t.Errorf("%s: %x, not %x", when, begins(got[i]), begins(ought[i]))
		}
	}
}

// checkMemory asks twice, and spoils first what was answered, then what was handed in.
func checkMemory(t *testing.T, f api.Flow, l, ways list) {
	t.Helper()
	x, places, along := api.Flow{Elements: roomy(f.Elements, strange)}, roomy(l, 99), roomy(ways, 77)
	first := both(x)
	kept := copied(first)
	most, e := image.Through(x, places, along)
	spoil(first[0].Elements, strange)
	wantBoth(t, "the wall's answer is spoilt", [2]api.Flow{kept[0], first[1]}, kept)
	spoil(first[1].Elements, strange)
	if !untouched(x.Elements, f.Elements, strange, sameElements) || !untouched(places, l, 99, same) || !untouched(along, ways, 77, same) {
		t.Errorf("%x, %x, %x: they are %x, %x, %x now", begins(f), l, ways, begins(x), places, along)
	}
	second := both(x)
	wantBoth(t, "asked again", second, kept)
	wantThrough(t, x, places, along, most, e)
	spoil(x.Elements, strange)
	spoil(places, 99)
	spoil(along, 77)
	wantBoth(t, "what was handed in is spoilt", second, kept)
	wantThrough(t, f, l, ways, most, e)
}

func TestP17_5Memory(t *testing.T) {
	d := newDice()
	for range 2000 {
		f := d.flow(d.below(6), d.mayStand)
		l, ways := filled(d.below(4), 1-1i), filled(3, d.way())[:0]
		for range l {
			ways = append(ways, d.way())
		}
		checkMemory(t, f, l, ways)
	}
	for _, f := range []api.Flow{
		of(), of(stream(1)), repeated(many, stream(1)), repeated(128, stream(1)), repeated(128, source(3i, 1)), repeated(85, source(3i, 1)),
		of(doublet(3i, 1, 8)), of(stream(1), corner(3i, 1, 2)), of(source(3i, 1), source(-3i, 1)), of(source(3i, 1), source(0, 1)), of(source(3i, 1), api.Element{}),
		repeated(129, source(3i, 1)), of(source(3i, 1), doublet(3i, farthest*(1+1i), 8)),
	} {
		checkMemory(t, f, nil, nil)
		checkMemory(t, f, list{1, 2}, list{1, 2i})
		checkMemory(t, f, list{1, 3i}, list{1, 2i})
		checkMemory(t, f, list{1, noPlaces[0]}, list{1, 2i})
		checkMemory(t, f, list{1, 2, 3}, list{1, 0, noPlaces[0]})
		checkMemory(t, f, list{1, 2, 3}, list{1})
	}
}

// Places and ways may be one list, or overlap.
func TestP17_5OneList(t *testing.T) {
	l := list{1, 2i, -3, 4 - 4i}
	f := of(stream(1i), source(9i, 1))
	for _, c := range []struct{ l, ways list }{{l, l}, {l[:2], l[1:3]}, {l[1:], l[:3]}} {
		ought, _ := throughSteps(f, append(list{}, c.l...), append(list{}, c.ways...))
		wantThrough(t, f, c.l, c.ways, ought, api.OK)
	}
	if !sameLists(l, list{1, 2i, -3, 4 - 4i}) {
		t.Errorf("it is %x now", l)
	}
}
