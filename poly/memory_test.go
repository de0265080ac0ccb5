package poly_test

import (
	"testing"

	"eddy/poly"
)

// call is a call that answers lists, asked with two lists and a number.
type call struct {
	name string
	does func(a, b list, z complex128) []list
}

// calls leave the errors aside: a list that is not answered is nil.
func calls() []call {
	one := func(l list, _ any) []list { return []list{l} }
	return []call{
		{"Slope", func(a, _ list, _ complex128) []list { return one(poly.Slope(a)) }},
		{"Add", func(a, b list, _ complex128) []list { return one(poly.Add(a, b)) }},
		{"Mul", func(a, b list, _ complex128) []list { return one(poly.Mul(a, b)) }},
		{"Div", func(a, b list, _ complex128) []list { q, r, _ := poly.Div(a, b); return []list{q, r} }},
		{"Of", func(a, _ list, _ complex128) []list { return one(poly.Of(a)) }},
		{"Shift", func(a, _ list, z complex128) []list { return one(poly.Shift(a, z)) }},
		{"values", func(a, _ list, z complex128) []list {
			poly.Check(a)
			poly.At(a, z)
			poly.Both(a, z)
			poly.Bound(a)
			return nil
		}},
	}
}

const spare = 5

// roomy is l with spare room, in which something stands.
func roomy(l list) list {
	out := append(append(make(list, 0, len(l)+spare), l...), filled(spare, 7-7i)...)
	return out[:len(l):len(out)]
}

// untouched tells whether a roomy list is what it was made of.
func untouched(r, l list) bool {
	return sameLists(r[:len(l)], l) && sameLists(r[len(l):len(l)+spare], filled(spare, 7-7i))
}

func copies(l []list) []list {
	var out []list
	for _, x := range l {
		out = append(out, append(list{}, x...))
	}
	return out
}

func spoil(l list) {
	for i := range l {
		l[i] = 99
	}
}

// checkMemory asks a call twice, and spoils what it answered first, list by list.
func checkMemory(t *testing.T, c call, a, b list, z complex128) {
	t.Helper()
	x, y := roomy(a), roomy(b)
	first := c.does(x, y, z)
	kept := copies(first)
	for i, l := range first {
		if cap(l) != len(l) {
			t.Errorf("%s of %x, %x: list %d has the room %d, not %d", c.name, a, b, i, cap(l), len(l))
		}
		for j := i; j < len(first); j++ {
			if !sameLists(first[j], kept[j]) {
				t.Errorf("%s of %x, %x: its lists share memory", c.name, a, b)
			}
		}
		spoil(l)
	}
	if !untouched(x, a) || !untouched(y, b) {
		t.Errorf("%s of %x, %x: they are %x, %x now", c.name, a, b, x, y)
	}
	second := c.does(x, y, z)
	for i := range second {
		if !sameLists(second[i], kept[i]) {
			t.Errorf("%s of %x, %x: first %x, then %x", c.name, a, b, kept[i], second[i])
		}
	}
	spoil(x)
	spoil(y)
	for i := range second {
		if !sameLists(second[i], kept[i]) {
			t.Errorf("%s of %x, %x: the answer %x changes with them", c.name, a, b, kept[i])
		}
	}
}

func TestP8_10Memory(t *testing.T) {
	fixed := [][2]list{
		{{0}, {0}}, {{minusBoth}, {1}}, {{1}, {1}}, {{1, 2}, {1, -2}}, {{1}, {0, 0, 1}}, {{1, 2}, {0, 0, 1}}, {{-1, 0, 1}, {1, 1}}, {{2, 4}, {2}},
		{{1, 2, 3}, {-1, -2, -3}}, {{7, 5, 3}, {1, 1, 1}}, {{4, 1, 2}, {3, 1, 2}}, {{0x1p20, 0x1p-600}, {0x1p20, 0x1p-600}}, {{most}, {most}},
		{{1, complex(none, 0), 1}, {1}}, {nil, {1}}, {{1}, {}}, {filled(degrees+1, 1), filled(degrees+1, -1)}, {filled(degrees+2, 1), {1}},
	}
	d := newDice()
	for _, c := range calls() {
		for _, p := range fixed {
			checkMemory(t, c, p[0], p[1], 2)
			checkMemory(t, c, p[1], p[0], complex(none, 0))
		}
		for range 300 {
			checkMemory(t, c, d.any(), d.any(), d.number(2))
			checkMemory(t, c, d.wholes(), d.wholes(), d.whole())
		}
	}
}

// One list on both sides.
func TestP8_10OneListTwice(t *testing.T) {
	d := newDice()
	for range 300 {
		l := d.wholes()
		x := roomy(l)
		for _, c := range calls() {
			ought := c.does(append(list{}, l...), append(list{}, l...), 1i)
			got := c.does(x, x, 1i)
			for i := range got {
				if !sameLists(got[i], ought[i]) {
					t.Errorf("%s of %x twice: %x, not %x", c.name, l, got[i], ought[i])
				}
				spoil(got[i])
			}
			if !untouched(x, l) {
				t.Fatalf("%s of %x twice: it is %x now", c.name, l, x)
			}
		}
	}
}

// The nought polynomial is new each time, wherever it comes from.
func TestP8_10NoughtIsNew(t *testing.T) {
	ask := func() []list {
		slope, _ := poly.Slope(list{5})
		product, _ := poly.Mul(list{0}, list{1, 2})
		q, a, _ := poly.Div(list{0}, list{0, 1})
		_, r, _ := poly.Div(list{5}, list{2})
		return []list{slope, product, q, a, r}
	}
	for range 2 {
		for i, l := range ask() {
			if !sameLists(l, list{0}) || cap(l) != 1 {
				t.Errorf("%d: %x", i, l)
			}
			spoil(l)
		}
	}
}
