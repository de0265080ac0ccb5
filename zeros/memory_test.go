package zeros_test

import (
	"testing"

	"eddy/zeros"
)

// call is a call asked with two lists; it answers the one list that it tells, or nil.
type call struct {
	name string
	does func(l, z list) list
}

func calls() []call {
	return []call{
		{"Begin", func(l, _ list) list { b, _ := zeros.Begin(l); return b }},
		{"Round", func(l, z list) list { r, _ := zeros.Round(l, z); return r }},
		{"All", func(l, _ list) list { a, _, _ := zeros.All(l, 40); return a }},
		{"numbers", func(l, _ list) list {
			zeros.Polish(l, 1+1i, 20)
			zeros.Radius(l, 0.5-2i)
			zeros.Square(l)
			return nil
		}},
	}
}

const spare = 5

// roomy is l with spare room, in which something stands.
func roomy(l list) list {
	out := append(append(make(list, 0, len(l)+spare), l...), filled(spare, 7-7i)...)
	return out[:len(l):len(out)]
}

// untouched tells whether a roomy list is what it was made of.
func untouched(r, l list) bool {
	return sameLists(r[:len(l)], l) && sameLists(r[len(l):len(l)+spare], filled(spare, 7-7i))
}

// spoil writes over all that a list has room for.
func spoil(l list) {
	l = l[:cap(l)]
	for i := range l {
		l[i] = 99
	}
}

// checkMemory asks a call twice, and spoils first what it answered, then what it was handed.
func checkMemory(t *testing.T, c call, l, z list) {
	t.Helper()
	x, y := roomy(l), roomy(z)
	first := c.does(x, y)
	kept := append(list{}, first...)
	spoil(first)
	if !untouched(x, l) || !untouched(y, z) {
		t.Errorf("%s of %x, %x: they are %x, %x now", c.name, l, z, x, y)
	}
	second := c.does(x, y)
	if !sameLists(second, kept) {
		t.Errorf("%s of %x, %x: first %x, then %x", c.name, l, z, kept, second)
	}
	third := c.does(x, y)
	spoil(x)
	spoil(y)
	spoil(third)
	if !sameLists(second, kept) {
		t.Errorf("%s of %x, %x: the answer %x changes with them", c.name, l, z, kept)
	}
}

func TestP9_7Memory(t *testing.T) {
	fixed := [][2]list{
		{{-1, 0, 1}, {1, -1}}, {{-1, 0, 1}, {0, 0}}, {{-1, 0, 1}, {2, 2}}, {{-6, 1, 1}, {3, 1i}}, {{5}, {}}, {{5}, nil}, {{0}, nil}, {{0, 1}, {minusBoth}}, {{0, 0, 1}, {0, 0}},
		{nil, {1}}, {{}, nil}, {{1, 0}, {1}}, {{-1, 0, 1}, {1}}, {{-1, 0, 1}, {1, complex(none, 0)}}, {{most, least}, {1}}, {{most, 1}, {0}},
		{ending(degrees, -1, 1), filled(degrees, 3)}, {ending(degrees, 0x1p39, 1), filled(degrees, most)}, {filled(degrees+2, 1), filled(degrees+1, 1)},
	}
	d := newDice()
	for _, c := range calls() {
		for _, p := range fixed {
			checkMemory(t, c, p[0], p[1])
		}
		for range 200 {
			l := d.any()
			checkMemory(t, c, l, d.places(l, 3))
		}
	}
}

// One list as coefficients and as places: of the degree n there are n + 1 of the former, so the places are a piece of it.
func TestP9_7OneListTwice(t *testing.T) {
	d := newDice()
	for range 300 {
		l := d.list(2+d.below(7), func() complex128 { return d.whole(8) })
		x := roomy(l)
		for _, z := range []list{x[:len(l)-1], x[1:]} {
			ought := roundSteps(l, append(list{}, z...))
			got, _ := zeros.Round(x, z)
			if !sameLists(got, ought) {
				t.Errorf("Round of %v and a piece of it: %x, not %x", l, got, ought)
			}
			spoil(got)
			if !untouched(x, l) {
				t.Fatalf("Round of %v and a piece of it: it is %v now", l, x)
			}
		}
	}
}
