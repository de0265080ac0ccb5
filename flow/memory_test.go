package flow_test

import (
	"testing"

	"eddy/api"
	"eddy/flow"
)

const spare = 5

var strange = api.Element{Kind: 77, At: 7 - 7i, Strength: 7 + 7i, Power: 7}

// roomy is f with spare room, in which something stands.
func roomy(f api.Flow) api.Flow {
	n := len(f.Elements)
	l := append(append(make([]api.Element, 0, n+spare), f.Elements...), repeated(spare, strange).Elements...)
	return api.Flow{Elements: l[:n]}
}

// untouched tells whether a roomy flow is what it was made of.
func untouched(r, f api.Flow) bool {
	n := len(f.Elements)
	return sameFlows(r, f) && sameFlows(api.Flow{Elements: r.Elements[n : n+spare]}, repeated(spare, strange))
}

// spoil writes over all that lists have room for.
func spoil[T any](with T, lists ...[]T) {
	for _, l := range lists {
		l = l[:cap(l)]
		for i := range l {
			l[i] = with
		}
	}
}

// answers are all lists that the calls of two flows tell.
type answers struct {
	flows   [3]api.Flow
	numbers [3]list
}

func ask(f, g api.Flow) (out answers) {
	out.flows[0], _ = flow.Add(f, g)
	out.flows[1], _ = flow.Conj(f)
	out.flows[2], _ = flow.Neg(f)
	out.numbers[0], _ = flow.Places(f)
	r, _, _ := flow.Fraction(f)
	out.numbers[1], out.numbers[2] = r.Top, r.Bottom
	flow.Check(f)
	for _, c := range calls() {
		c.does(f, 1+1i)
		c.does(f, 0)
	}
	flow.Stream(f, 1+1i)
	flow.Press(f, 1, 1+1i)
	return out
}

func (a answers) copied() (out answers) {
	for i := range a.flows {
		out.flows[i].Elements = append([]api.Element{}, a.flows[i].Elements...)
	}
	for i := range a.numbers {
		out.numbers[i] = append(list{}, a.numbers[i]...)
	}
	return out
}

func wantAnswers(t *testing.T, when string, got, ought answers) {
	t.Helper()
	for i := range ought.flows {
		if !sameFlows(got.flows[i], ought.flows[i]) {
			t.Errorf("%s: flow %d is %x, not %x", when, i, got.flows[i], ought.flows[i])
		}
	}
	for i := range ought.numbers {
		if !sameLists(got.numbers[i], ought.numbers[i]) {
			t.Errorf("%s: list %d is %x, not %x", when, i, got.numbers[i], ought.numbers[i])
		}
	}
}

// spoilOneByOne looks whether a list changes with those ahead of it.
func spoilOneByOne(t *testing.T, a answers) {
	t.Helper()
	kept := a.copied()
	for i, f := range a.flows {
		if !sameFlows(f, kept.flows[i]) {
			t.Errorf("flow %d changes with those ahead: %x", i, f)
		}
		spoil(strange, f.Elements)
	}
	for i, l := range a.numbers {
		if !sameLists(l, kept.numbers[i]) {
			t.Errorf("list %d changes with those ahead: %x", i, l)
		}
		spoil(99, l)
	}
}

// checkMemory asks twice, and spoils first what was answered, then what was handed in.
func checkMemory(t *testing.T, f, g api.Flow) {
	t.Helper()
	x, y := roomy(f), roomy(g)
	first := ask(x, y)
	kept := first.copied()
	spoilOneByOne(t, first)
	if !untouched(x, f) || !untouched(y, g) {
		t.Errorf("%x, %x: they are %x, %x now", f, g, x, y)
	}
	second := ask(x, y)
	wantAnswers(t, "asked again", second, kept)
	spoil(strange, x.Elements, y.Elements)
	wantAnswers(t, "what was handed in is spoilt", second, kept)
}

func TestP16_6Memory(t *testing.T) {
	d := newDice()
	for range 2000 {
		checkMemory(t, d.flow(d.below(5), d.rational), d.flow(d.below(5), d.rational))
		checkMemory(t, d.flow(d.below(5), d.element), d.flow(d.below(5), d.element))
	}
	for _, f := range []api.Flow{of(), of(stream(1)), of(source(1, 1)), of(corner(0, 1, 0.5)), of(source(2, 1), source(1, 1)), of(source(0, 1), api.Element{}), of(doublet(0, farthest, 8))} {
		checkMemory(t, f, of())
		checkMemory(t, of(), f)
		checkMemory(t, f, f)
	}
	checkMemory(t, d.flow(many, d.rational), of())
	checkMemory(t, d.flow(many, d.rational), of(stream(1))) // too many together
	checkMemory(t, d.flow(many/2, d.rational), d.flow(many/2, d.rational))
}

// One list on both sides, the second flow in the spare room of the first: what is answered still stands apart.
func TestP16_6OneList(t *testing.T) {
	d := newDice()
	for range 500 {
		f := d.flow(6, d.rational)
		kept := api.Flow{Elements: append([]api.Element{}, f.Elements...)}
		left, right := api.Flow{Elements: f.Elements[:3]}, api.Flow{Elements: f.Elements[1:5]}
		ought := of(kept.Elements[0], kept.Elements[1], kept.Elements[2], kept.Elements[1], kept.Elements[2], kept.Elements[3], kept.Elements[4])
		wantAdd(t, left, right, ought, api.OK)
		wantAdd(t, left, left, of(kept.Elements[0], kept.Elements[1], kept.Elements[2], kept.Elements[0], kept.Elements[1], kept.Elements[2]), api.OK)
		for _, g := range []api.Flow{left, right} {
			sum, _ := flow.Add(left, g)
			spoil(strange, sum.Elements)
		}
		if !sameFlows(f, kept) {
			t.Fatalf("%x: it is %x now", kept, f)
		}
	}
}
