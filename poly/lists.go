package poly

import (
	"eddy/api"
	"eddy/parts"
)

// Slope is the derivative.
func Slope(l []complex128) ([]complex128, api.Errno) {
	if e := Check(l); e != api.OK {
		return nil, e
	}
	if len(l) == 1 {
		return nought(), api.OK
	}
	out := make([]complex128, len(l)-1)
	for i := range out {
		out[i] = parts.Scale(l[i+1], float64(i+1))
	}
	return answered(out)
}

// Add is the sum.
func Add(a, b []complex128) ([]complex128, api.Errno) {
	if e := checkTwo(a, b); e != api.OK {
		return nil, e
	}
	if len(a) < len(b) {
		a, b = b, a
	}
	// What b has no coefficient for stays as it is: a nought added to it would take a minus from its noughts.
	out := copied(a)
	for i, c := range b {
		out[i] += c
	}
	return answered(out)
}

// Mul is the product.
func Mul(a, b []complex128) ([]complex128, api.Errno) {
	if e := checkTwo(a, b); e != api.OK {
		return nil, e
	}
	if isNought(last(a)) || isNought(last(b)) {
		return nought(), api.OK
	}
	count := len(a) + len(b) - 1
	if count > api.MaxDegree+1 {
		return nil, api.ErrMany
	}
	out := make([]complex128, count)
	for k := range out {
		out[k] = productsOf(a, b, k)
	}
	return answered(out)
}

// productsOf is the sum of the products that go with the power k. It begins with the first one, not with (0, 0), which would swallow minus noughts.
func productsOf(a, b []complex128, k int) complex128 {
	from, to := max(0, k-len(b)+1), min(k, len(a)-1)
	sum := parts.Mul(a[from], b[k-from])
	for i := from + 1; i <= to; i++ {
		sum += parts.Mul(a[i], b[k-i])
	}
	return sum
}

// Div is the quotient of a by b, and the rest.
func Div(a, b []complex128) (q, r []complex128, e api.Errno) {
	if e := checkTwo(a, b); e != api.OK {
		return nil, nil, e
	}
	if isNought(last(b)) {
		return nil, nil, api.ErrPlace
	}
	if len(a) < len(b) {
		return nought(), copied(a), api.OK
	}
	q, r = divided(a, b)
	if q, e = answered(q); e != api.OK {
		return nil, nil, e
	}
	if r, e = answered(r); e != api.OK {
		return nil, nil, e
	}
	return q, r, api.OK
}

// divided goes from the highest power down: each coefficient of the quotient takes so many times b off what is left of a, but for b's last coefficient: what stands there nobody reads any more.
func divided(a, b []complex128) (q, r []complex128) {
	m := len(b) - 1
	left := copied(a)
	q = make([]complex128, len(a)-m)
	for k := len(q) - 1; k >= 0; k-- {
		q[k] = parts.Div(left[k+m], b[m])
		for i, c := range b[:m] {
			left[k+i] -= parts.Mul(q[k], c)
		}
	}
	if m == 0 {
		return q, nought()
	}
	return q, left[:m]
}

// Of is the polynomial that has these zeros, and the last coefficient 1.
func Of(zeros []complex128) ([]complex128, api.Errno) {
	if len(zeros) > api.MaxDegree {
		return nil, api.ErrMany
	}
	if !arePlaces(zeros) {
		return nil, api.ErrReal
	}
	p := []complex128{1}
	for _, z := range zeros {
		p = withZero(p, z)
	}
	return answered(p)
}

// withZero are p's coefficients once it has one zero more.
func withZero(p []complex128, z complex128) []complex128 {
	n := len(p)
	out := make([]complex128, n+1)
	out[0] = parts.Neg(parts.Mul(z, p[0]))
	copy(out[1:], p)
	for i := 1; i < n; i++ {
		out[i] -= parts.Mul(z, p[i])
	}
	return out
}

// Shift is the polynomial whose value at z is that of l at z + by.
func Shift(l []complex128, by complex128) ([]complex128, api.Errno) {
	if e := checkWith(l, by); e != api.OK {
		return nil, e
	}
	out := copied(l)
	n := len(l) - 1
	for j := range n {
		for i := n - 1; i >= j; i-- {
			out[i] += parts.Mul(out[i+1], by)
		}
	}
	return answered(out)
}

// answered takes the last noughts off a list of the package's own, and its spare room with them. No call comes here with a degree above MaxDegree: Mul refuses that ahead of working.
func answered(l []complex128) ([]complex128, api.Errno) {
	n := len(l)
	for n > 1 && isNought(l[n-1]) {
		n--
	}
	if !arePlaces(l[:n]) {
		return nil, api.ErrPlace
	}
	return l[:n:n], api.OK
}

// nought is the nought polynomial, new each time.
func nought() []complex128 { return []complex128{0} }

// copied is l in new memory, which has no spare room.
func copied(l []complex128) []complex128 {
	out := make([]complex128, len(l))
	copy(out, l)
	return out
}
