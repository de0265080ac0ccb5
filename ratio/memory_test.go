package ratio_test

import (
	"testing"

	"eddy/ratio"
)

// call is a call asked with two fractions; it tells the lists that it answers, nil ones where there is an error.
type call struct {
	name string
	does func(f, g fraction) []list
}

func calls() []call {
	lists := func(f fraction, _ any) []list { return []list{f.Top, f.Bottom} }
	return []call{
		{"Slope", func(f, _ fraction) []list { return lists(ratio.Slope(f)) }},
		{"Add", func(f, g fraction) []list { return lists(ratio.Add(f, g)) }},
		{"Mul", func(f, g fraction) []list { return lists(ratio.Mul(f, g)) }},
		{"Turned", func(f, _ fraction) []list { return lists(ratio.Turned(f)) }},
		{"Poles", func(f, g fraction) []list { ratio.Poles(f, g.Top); return nil }},
		{"values", func(f, g fraction) []list {
			ratio.Check(f)
			ratio.At(f, 1+1i)
			ratio.At(g, 0)
			return nil
		}},
	}
}

const spare = 5

// roomyList is l with spare room, in which something stands.
func roomyList(l list) list {
	out := append(append(make(list, 0, len(l)+spare), l...), filled(spare, 7-7i)...)
	return out[:len(l):len(out)]
}

func roomy(f fraction) fraction { return of(roomyList(f.Top), roomyList(f.Bottom)) }

// untouchedList tells whether a roomy list is what it was made of.
func untouchedList(r, l list) bool {
	return sameLists(r[:len(l)], l) && sameLists(r[len(l):len(l)+spare], filled(spare, 7-7i))
}

func untouched(r, f fraction) bool {
	return untouchedList(r.Top, f.Top) && untouchedList(r.Bottom, f.Bottom)
}

// spoil writes over all that lists have room for.
func spoil(lists ...list) {
	for _, l := range lists {
		l = l[:cap(l)]
		for i := range l {
			l[i] = 99
		}
	}
}

func copies(l []list) []list {
	var out []list
	for _, x := range l {
		out = append(out, append(list{}, x...))
	}
	return out
}

// spoilOneByOne looks whether a list changes with those ahead of it.
func spoilOneByOne(t *testing.T, name string, lists []list) {
	t.Helper()
	kept := copies(lists)
	for i, l := range lists {
		if !sameLists(l, kept[i]) {
			t.Errorf("%s: its lists share memory: %x", name, kept)
		}
		if cap(l) != len(l) {
			t.Errorf("%s: list %d has the room %d, not %d", name, i, cap(l), len(l))
		}
		spoil(l)
	}
}

func wantLists(t *testing.T, name string, got, ought []list) {
	t.Helper()
	for i := range ought {
		if !sameLists(got[i], ought[i]) {
			t.Errorf("%s: list %d is %x, not %x", name, i, got[i], ought[i])
		}
	}
}

// checkMemory asks a call twice, and spoils first what it answered, then what it was handed.
func checkMemory(t *testing.T, c call, f, g fraction) {
	t.Helper()
	x, y := roomy(f), roomy(g)
	first := c.does(x, y)
	kept := copies(first)
	spoilOneByOne(t, c.name, first)
	if !untouched(x, f) || !untouched(y, g) {
		t.Errorf("%s of %x, %x: they are %x, %x now", c.name, f, g, x, y)
	}
	second := c.does(x, y)
	wantLists(t, c.name, second, kept)
	spoil(x.Top, x.Bottom, y.Top, y.Bottom)
	wantLists(t, c.name, second, kept)
}

func TestP10_7Memory(t *testing.T) {
	fixed := [][2]fraction{
		{of(list{1}, list{0, 1}), of(list{1}, list{1})}, {of(list{0}, list{1}), of(list{0}, list{1})}, {of(list{minusBoth}, list{2}), of(list{3}, list{1})},
		{of(list{1, 2}, list{2, 0, 1}), of(list{0, 0}, list{1})}, {of(list{1}, list{-1, 0, 1}), of(list{1, -1}, list{5})}, {of(list{1}, list{0, 0, 1}), of(list{1, 0}, list{1})},
		{of(list{1}, list{1e-300}), of(list{1}, list{1e-300})}, {of(power(40, 1), list{1}), of(power(40, 1), list{1})}, {of(list{most}, list{most}), of(list{most}, list{1})},
		{of(nil, list{1}), of(list{1}, nil)}, {of(list{1}, list{0}), of(list{1}, list{1})}, {of(list{1, complex(none, 0), 1}, list{1}), of(list{1}, list{1})},
	}
	d := newDice()
	for _, c := range calls() {
		for _, p := range fixed {
			checkMemory(t, c, p[0], p[1])
			checkMemory(t, c, p[1], p[0])
		}
		for range 200 {
			checkMemory(t, c, d.fraction(), d.fraction())
			checkMemory(t, c, d.wholes(), d.wholes())
		}
	}
}

// One list on all sides: what is answered still stands apart.
func TestP10_7OneList(t *testing.T) {
	d := newDice()
	for range 300 {
		l := d.wholes().Bottom
		x := roomyList(l)
		f := of(x, x)
		for _, c := range calls() {
			ought := c.does(of(append(list{}, l...), append(list{}, l...)), of(append(list{}, l...), append(list{}, l...)))
			got := c.does(f, f)
			wantLists(t, c.name, got, ought)
			spoilOneByOne(t, c.name, got)
			if !untouchedList(x, l) {
				t.Fatalf("%s of %x, all over: it is %x now", c.name, l, x)
			}
		}
	}
}

// Poles' list is new, and neither the fraction nor the places are touched.
func TestP10_7Poles(t *testing.T) {
	d := newDice()
	for i := range 1000 {
		f := d.fraction()
		at := d.numbers(len(f.Bottom)-1, 2)
		if i%5 == 0 && len(at) > 1 {
			at[len(at)-1] = complex(none, 0)
		}
		x, y := roomy(f), roomyList(at)
		first, _ := ratio.Poles(x, y)
		kept := append([]pole{}, first...)
		spoilPoles(first)
		if !untouched(x, f) || !untouchedList(y, at) {
			t.Fatalf("Poles of %x, %x: they are %x, %x now", f, at, x, y)
		}
		second, _ := ratio.Poles(x, y)
		spoil(x.Top, x.Bottom, y)
		if !samePoles(second, kept) {
			t.Errorf("Poles of %x, %x: %x, then %x", f, at, kept, second)
		}
	}
}

// spoilPoles writes over all that a list has room for.
func spoilPoles(l []pole) {
	l = l[:cap(l)]
	for i := range l {
		l[i] = pole{At: 99, Residue: 99}
	}
}

func TestP10_7Of(t *testing.T) {
	d := newDice()
	strange := pole{At: 7 - 7i, Residue: 7 + 7i}
	for i := range 2000 {
		l := unlikePoles(d, i%5)
		var rest list
		switch i % 4 {
		case 0:
			rest = d.any()
		case 1:
			rest = list{noughts[i/4%4]}
		case 2:
			rest = list{d.whole(), 1}
		}
		x, y := append(append(make([]pole, 0, len(l)+spare), l...), polesAt(spare, strange)...)[:len(l)], roomyList(rest)
		first, _ := ratio.Of(x, y)
		kept := copies([]list{first.Top, first.Bottom})
		spoilOneByOne(t, "Of", []list{first.Top, first.Bottom})
		if !samePoles(x[:len(l)+spare], append(append([]pole{}, l...), polesAt(spare, strange)...)) || !untouchedList(y, rest) {
			t.Fatalf("Of(%x, %x): they are %x, %x now", l, rest, x, y)
		}
		second, _ := ratio.Of(x, y)
		spoilPoles(x)
		spoil(y)
		wantLists(t, "Of", []list{second.Top, second.Bottom}, kept)
	}
}
