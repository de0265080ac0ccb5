package ratio

import (
	"eddy/api"
	"eddy/poly"
)

// work is calls of poly, one behind the other. It keeps the first error; behind that one nothing is worked out any more, and all answer nothing.
type work struct{ e api.Errno }

// workOn begins with fractions that are looked at, from the left.
func workOn(fractions ...api.Fraction) work {
	for _, f := range fractions {
		if e := Check(f); e != api.OK {
			return work{e}
		}
	}
	return work{}
}

func (w *work) slope(l []complex128) (out []complex128) {
	if w.e == api.OK {
		out, w.e = poly.Slope(l)
	}
	return out
}

func (w *work) add(a, b []complex128) (out []complex128) {
	if w.e == api.OK {
		out, w.e = poly.Add(a, b)
	}
	return out
}

func (w *work) mul(a, b []complex128) (out []complex128) {
	if w.e == api.OK {
		out, w.e = poly.Mul(a, b)
	}
	return out
}

func (w *work) of(zeros []complex128) (out []complex128) {
	if w.e == api.OK {
		out, w.e = poly.Of(zeros)
	}
	return out
}

// copied is l in new memory, which has no spare room.
func (w *work) copied(l []complex128) (out []complex128) {
	if w.e == api.OK {
		out = make([]complex128, len(l))
		copy(out, l)
	}
	return out
}

// answered looks at a fraction that is ready to be answered: all of it is taken back where there is an error.
func (w *work) answered(f api.Fraction) (api.Fraction, api.Errno) {
	if w.e == api.OK && isNoughtPolynomial(f.Bottom) {
		w.e = api.ErrPlace
	}
	if w.e != api.OK {
		return api.Fraction{}, w.e
	}
	return f, api.OK
}
